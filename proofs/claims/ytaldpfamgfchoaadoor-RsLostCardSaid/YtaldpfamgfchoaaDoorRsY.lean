/-
  rs, the document's: Decode.
-/
import Derived.Test.YtaldpfamgfchoaaDoorRsX
namespace Go.Proofs.YtaldpfamgfchoaaDoor.Rs
open Go.RowKit Gf
set_option maxRecDepth 100000

theorem rdecode_count (w : World) (k m n nb : Nat) (x y : Value) (L : Nat → Nat) (D : Nat → Nat → UInt8) (fl : Nat → Bool) (hx : SM (fun _ => False) w x n L D) (hy : SB (fun _ => False) w y nb fl) (hkm : k + m ≤ 32) (hn : n ≠ k + m ∨ nb ≠ k + m) :
    Calls Tryd.prog 23 #[codeV k m, x, y] w fun e w' => e = .returned (.tuple #[.slice none 0 0, .int .i64 1]) ∧ Stay (fun _ => False) w w' := by
  obtain ⟨ax, cx, rfl, _⟩ := hx.form
  obtain ⟨ay, cy, rfl, _⟩ := hy.form
  have q1 : (k : Int) + (m : Int) ≤ 32 := by omega
  unfold codeV
  by_cases h1 : n = k + m
  · have q2 : ((n : Int) != (k : Int) + (m : Int)) = false := by rw [h1]; simp
    have q3 : ((nb : Int) != (k : Int) + (m : Int)) = true := by simp; omega
    clear hx hy hn h1 hkm
    go_enter Tryd.func23, Tryd.ntmps23
    go_wp2
    go_ret2
    exact ⟨rfl, Stay.alloc _ _⟩
  · have q2 : ((n : Int) != (k : Int) + (m : Int)) = true := by simp; omega
    clear hx hy hn h1 hkm
    go_enter Tryd.func23, Tryd.ntmps23
    go_wp2
    go_ret2
    exact ⟨rfl, Stay.alloc _ _⟩

set_option maxHeartbeats 16000000 in
theorem rdecode_any (w : World) (k m : Nat) (x y : Value) (L : Nat → Nat) (D : Nat → Nat → UInt8) (fl : Nat → Bool) (hx : SM (fun _ => False) w x (k + m) L D) (hy : SB (fun _ => False) w y (k + m) fl) (hk : 1 ≤ k) (hkm : k + m ≤ 32) (hl : ∀ i, i < k + m → fl i = true → L i ≤ 140737488355327) :
    Calls Tryd.prog 23 #[codeV k m, x, y] w fun e w' => Stay (fun _ => False) w w' ∧
      ((evenB (sel fl (k + m)).length (fun i => L ((sel fl (k + m)).getD i 0)) = false ∧ e = .returned (.tuple #[.slice none 0 0, .int .i64 2])) ∨
       (evenB (sel fl (k + m)).length (fun i => L ((sel fl (k + m)).getD i 0)) = true ∧ (sel fl (k + m)).length < k ∧ e = .returned (.tuple #[.slice none 0 0, .int .i64 20])) ∨
       (evenB (sel fl (k + m)).length (fun i => L ((sel fl (k + m)).getD i 0)) = true ∧ k ≤ (sel fl (k + m)).length ∧
         ((runR k (augR k (fun i => rowF k ((sel fl (k + m)).getD i 0))) k = none ∧ e = .returned (.tuple #[.slice none 0 0, .int .i64 14])) ∨
          (∃ R v, runR k (augR k (fun i => rowF k ((sel fl (k + m)).getD i 0))) k = some R ∧ e = .returned (.tuple #[v, .int .i64 0]) ∧
            SM (fun i => i < w.heap.size) w' v (k + m) (fun _ => L ((sel fl (k + m)).getD 0 0)) (prodF k (rowF k) (prodF k (backR k R) (fun i => D ((sel fl (k + m)).getD i 0)))))))) := by
  obtain ⟨ax, cx, rfl, _⟩ := hx.form
  obtain ⟨ay, cy, rfl, _⟩ := hy.form
  obtain ⟨w1, hw1⟩ : ∃ w1, w1 = w.alloc (.cells #[.int .i64 (k : Int), .int .i64 (m : Int)] 31) := ⟨_, rfl⟩
  have hs1 : Stay (fun _ => False) w w1 := hw1 ▸ Stay.alloc w _
  have hh1 : w1.heap[w.heap.size]? = some (.cells #[.int .i64 (k : Int), .int .i64 (m : Int)] 31 (0, 0)) := by rw [hw1]; exact heap_alloc_new w _
  have hc0 : w1.cell? ⟨w.heap.size, 0, none⟩ = some (.int .i64 (k : Int)) := by rw [cell_of_row _ _ _ _ _ _ hh1]; rfl
  have hc1 : w1.cell? ⟨w.heap.size, 1, none⟩ = some (.int .i64 (m : Int)) := by rw [cell_of_row _ _ _ _ _ _ hh1]; rfl
  obtain ⟨N, hN⟩ : ∃ N, N = k + m := ⟨_, rfl⟩
  rw [← hN] at hx hy hl ⊢
  have q0 : (k : Int) + (m : Int) = (N : Int) := by omega
  have q1 : (N : Int) ≤ 32 := by omega
  have q2 : (k : Int) ≤ 32 := by omega
  have q3 : ((N : Int) != (N : Int)) = false := by simp
  obtain ⟨T, hT⟩ : ∃ T, T = sel fl N := ⟨_, rfl⟩
  rw [← hT]
  have HT := Lib.hid hT
  obtain ⟨lz, hlz⟩ : ∃ lz, lz = L (T.getD 0 0) := ⟨_, rfl⟩
  have HLZ := Lib.hid hlz
  have HNN := Lib.hid hN
  have S1 := Lib.hid hs1
  have C0 := Lib.hid hc0
  have C1 := Lib.hid hc1
  have HH := Lib.hid hh1
  have HW := Lib.hid hw1
  have HX := Lib.hid (hx.stay hs1)
  have HY := Lib.hid (hy.stay hs1)
  have HK := Lib.hid hk
  have HKM := Lib.hid hkm
  have HL := Lib.hid hl
  have HSZ1 := Lib.hid (show w1.heap.size = w.heap.size + 1 by rw [hw1]; simp)
  unfold codeV
  clear hs1 hw1 hx hy hk hkm hl hh1 hc0 hc1 hN hT hlz
  go_enter Tryd.func23, Tryd.ntmps23
  go_wp2_with fail
  rw [← HW.out]
  go_loopw [8, 9, 10, 11, 12] (fun v8 v9 v10 v11 i wr => ∃ t : Nat, t ≤ N ∧ i = .int .i64 (t : Int) ∧ AL (fun i => v9.ownBlock = some i) w1.heap.size wr v8 (min (sel fl t).length k) (fun _ => k) (fun i => rowF k (T.getD i 0)) ∧
    AL (fun i => v8.ownBlock = some i) w1.heap.size wr v9 (min (sel fl t).length k) (fun i => L (T.getD i 0)) (fun i => D (T.getD i 0)) ∧ v10 = .int .i64 (if (sel fl t).length = 0 then 0 else (lz : Int)) ∧ v11 = .bool (decide (0 < (sel fl t).length)) ∧
    (∀ i, i < (sel fl t).length → L (T.getD i 0) = lz) ∧ Stay (fun _ => False) w1 wr) (fun _ _ _ _ i _ => N - (intOf i).toNat)
  case atStart => exact ⟨0, by omega, rfl, AL.nil _ _ _ _ _, AL.nil _ _ _ _ _, rfl, rfl, (fun i (hi : i < 0) => by omega), Stay.refl _ _⟩
  case round =>
    obtain ⟨t, ht, rfl, hr, hlf, rfl, rfl, hev, hst⟩ := hrel
    by_cases hlt : t < N
    · have q4 : (t : Int) < (N : Int) := by omega
      obtain ⟨by_, oy, rfl, cF⟩ := HY.out.at hlt
      have k2 := (cF.stay hst).now
      obtain ⟨bx, ox, ak, ck, rfl, cR, sR, _⟩ := HX.out.row hlt
      have k1 := (cR.stay hst).now
      have kc := hst.cell C0.out (fun x => x)
      have HR := Lib.hid hr
      have HLF := Lib.hid hlf
      have HEV := Lib.hid hev
      have HST := Lib.hid hst
      have HLT := Lib.hid hlt
      have SR := Lib.hid sR
      have CR := Lib.hid cR
      have HHR := Lib.hid ((hst.block _ (by have := HSZ1.out; omega) (fun x => x)).trans HH.out)
      clear hr hlf hev hst hlt cR sR cF
      cases hfl : fl t with
      | false =>
        rw [hfl] at k2
        have HF := Lib.hid hfl
        clear hfl
        go_wp2
        have hlt := HLT.out
        first
          | exact ⟨⟨t + 1, by omega, by go_num, by rw [sel_false HF.out]; exact HR.out, by rw [sel_false HF.out]; exact HLF.out, by rw [sel_false HF.out], by rw [sel_false HF.out], by rw [sel_false HF.out]; exact HEV.out, HST.out⟩, by simp [intOf]; omega⟩
          | (go_round
             case rel => exact ⟨t + 1, by omega, by go_num, by rw [sel_false HF.out]; exact HR.out, by rw [sel_false HF.out]; exact HLF.out, by rw [sel_false HF.out], by rw [sel_false HF.out], by rw [sel_false HF.out]; exact HEV.out, HST.out⟩
             case measure => simp [intOf]; omega)
      | true =>
        rw [hfl] at k2
        have HF := Lib.hid hfl
        have HSA := Lib.hid (show T.getD (sel fl t).length 0 = t by rw [HT.out]; exact sel_at HLT.out hfl)
        clear hfl
        obtain ⟨rc, hrc⟩ : ∃ rc, rc = min (sel fl t).length k := ⟨_, rfl⟩
        rw [← hrc] at HR HLF
        obtain ⟨a8, c8, rfl, _⟩ := HR.out.form
        obtain ⟨a9, c9, rfl, _⟩ := HLF.out.form
        have HSR := Lib.hid CR.out
        by_cases hc0 : (sel fl t).length = 0
        · rw [if_pos hc0, show decide (0 < (sel fl t).length) = false by simp [hc0]]
          have HLE := Lib.hid (show L t = lz by rw [hc0] at HSA; rw [HLZ.out, HSA.out])
          have HEV2 := Lib.hid (show ∀ i, i < (sel fl t).length + 1 → L (T.getD i 0) = lz from fun i hi => by
            by_cases e : i = (sel fl t).length
            · rw [e, HSA.out]; exact HLE.out
            · exact HEV.out i (by omega))
          clear hc0 HEV
          by_cases hck : (sel fl t).length < k
          · have q7 : (rc : Int) < (k : Int) := by omega
            have HRM := Lib.hid (show min ((sel fl t).length + 1) k = rc + 1 by omega)
            have HRK := Lib.hid (show T.getD rc 0 = t by rw [show rc = (sel fl t).length by omega]; exact HSA.out)
            clear hck hrc
            go_wp2_with (refine load_c rfl (.tmp 3) rfl w.heap.size rfl HHR.out ?_)
            refine (rrow_any wr k m t HKM.out (by have := HLT.out; have := HNN.out; omega)).mono ?_
            rintro e w2 ⟨v2, rfl, how2, s2⟩
            obtain ⟨a2, c2, rfl⟩ := how2.form
            rw [length_lf] at how2 ⊢
            have B2 := Lib.hid how2
            have S2 := Lib.hid (HST.out.trans s2)
            have R2 := Lib.hid (HR.out.stay0 s2)
            have LF2 := Lib.hid (HLF.out.stay0 s2)
            have HW2 := Lib.hid (show wr.heap.size ≤ w2.heap.size from s2.size)
            have HO8 := Lib.hid HR.out.lt
            have HO9 := Lib.hid HLF.out.lt
            have HCN := Lib.hid (show rc ≤ 65535 by omega)
            have HZ2 := Lib.hid (show w1.heap.size ≤ w2.heap.size from S2.out.size)
            have k3 := s2.cell k1 (fun x => x)
            clear how2 s2 k1 k2 kc
            go_wp2_with (first
              | (at_builtin
                 refine append_l (w := w2) rfl (.tmp 74) (.tmp 76) rfl (x1 := .slice a2 k c2) rfl rfl R2.out ⟨_, _, _, rfl⟩ (show SSlc _ w2 _ (lf k (rowF k (T.getD rc 0))) from by
                   rw [HRK.out]
                   exact Owns.ss B2.out (fun i e => by
                     rcases e with e | e
                     · exact (HO9.out _ e).2
                     · exact (HO8.out _ e).2)) (fun i e => by have := (HO9.out _ e).2; have := HW2.out; omega) HZ2.out HCN.out ?_
                 intro v8' w3 r3 s3 o3
                 have R3 := Lib.hid r3
                 have S3 := Lib.hid (stay_grow S2.out s3 (fun i e => (HO8.out i e).1))
                 have LF3 := Lib.hid (LF2.out.push (Y := fun i => v8'.ownBlock = some i) s3 (fun i hi e => by
                   rcases o3 with o | o
                   · exact o ▸ e
                   · rw [o] at e
                     have : i = w2.heap.size + 1 := by simpa using e.symm
                     omega))
                 have HW3 := Lib.hid s3.size
                 have k4 := (HSR.out.stay S3.out).now
                 clear r3 s3 o3 k3)
              | (at_builtin
                 refine append_l (w := w3) rfl (.tmp 78) (.tmp 83) rfl (x1 := .slice ak (L t) ck) rfl rfl LF3.out ⟨_, _, _, rfl⟩ (show SSlc _ w3 _ (lf (L (T.getD rc 0)) (D (T.getD rc 0))) from by
                   rw [HRK.out]
                   exact SR.out.push S3.out (fun i hi e => by
                     rcases e with e | e
                     · have := (R3.out.lt _ e).1; omega
                     · have := (HO9.out _ e).1; omega)) (fun i e => (R3.out.lt _ e).2) (by have := HZ2.out; have := HW3.out; omega) HCN.out ?_
                 intro v9' w4 l4 s4 o4
                 have L4 := Lib.hid l4
                 have S4 := Lib.hid (stay_grow S3.out s4 (fun i e => (HO9.out i e).1))
                 have R4 := Lib.hid (R3.out.push (Y := fun i => v9'.ownBlock = some i) s4 (fun i hi e => by
                   rcases o4 with o | o
                   · exact o ▸ e
                   · rw [o] at e
                     have : i = w3.heap.size + 1 := by simpa using e.symm
                     omega))
                 clear l4 s4 o4))
            have hlt := HLT.out
            first
              | exact ⟨by exact ⟨t + 1, by omega, by go_num, by rw [sel_true HF.out, HRM.out]; exact R4.out, by rw [sel_true HF.out, HRM.out]; exact L4.out, by rw [sel_true HF.out, if_neg (Nat.succ_ne_zero _)] <;> rw [HLE.out], by rw [sel_true HF.out]; simp, by rw [sel_true HF.out]; first | exact HEV2.out | exact fun i hi => (HEV2.out i hi).trans HLE.out.symm, S4.out⟩, by simp [intOf]; omega⟩
              | (go_round
                 case rel => exact ⟨t + 1, by omega, by go_num, by rw [sel_true HF.out, HRM.out]; exact R4.out, by rw [sel_true HF.out, HRM.out]; exact L4.out, by rw [sel_true HF.out, if_neg (Nat.succ_ne_zero _)] <;> rw [HLE.out], by rw [sel_true HF.out]; simp, by rw [sel_true HF.out]; first | exact HEV2.out | exact fun i hi => (HEV2.out i hi).trans HLE.out.symm, S4.out⟩
                 case measure => simp [intOf]; omega)
          · have q7 : ¬ (rc : Int) < (k : Int) := by omega
            have HRM := Lib.hid (show min ((sel fl t).length + 1) k = rc by omega)
            clear hck hrc
            go_wp2
            have hlt := HLT.out
            first
              | exact ⟨by exact ⟨t + 1, by omega, by go_num, by rw [sel_true HF.out, HRM.out]; exact HR.out, by rw [sel_true HF.out, HRM.out]; exact HLF.out, by rw [sel_true HF.out, if_neg (Nat.succ_ne_zero _)] <;> rw [HLE.out], by rw [sel_true HF.out]; simp, by rw [sel_true HF.out]; first | exact HEV2.out | exact fun i hi => (HEV2.out i hi).trans HLE.out.symm, HST.out⟩, by simp [intOf]; omega⟩
              | (go_round
                 case rel => exact ⟨t + 1, by omega, by go_num, by rw [sel_true HF.out, HRM.out]; exact HR.out, by rw [sel_true HF.out, HRM.out]; exact HLF.out, by rw [sel_true HF.out, if_neg (Nat.succ_ne_zero _)] <;> rw [HLE.out], by rw [sel_true HF.out]; simp, by rw [sel_true HF.out]; first | exact HEV2.out | exact fun i hi => (HEV2.out i hi).trans HLE.out.symm, HST.out⟩
                 case measure => simp [intOf]; omega)
        · rw [if_neg hc0, show decide (0 < (sel fl t).length) = true by simp; omega]
          by_cases hne : L t = lz
          · have HLE := Lib.hid hne
            have q6 : ((L t : Int) != (L t : Int)) = false := by simp
            rw [← hne]
            have HEV2 := Lib.hid (show ∀ i, i < (sel fl t).length + 1 → L (T.getD i 0) = lz from fun i hi => by
              by_cases e : i = (sel fl t).length
              · rw [e, HSA.out]; exact HLE.out
              · exact HEV.out i (by omega))
            clear hc0 hne HEV
            by_cases hck : (sel fl t).length < k
            · have q7 : (rc : Int) < (k : Int) := by omega
              have HRM := Lib.hid (show min ((sel fl t).length + 1) k = rc + 1 by omega)
              have HRK := Lib.hid (show T.getD rc 0 = t by rw [show rc = (sel fl t).length by omega]; exact HSA.out)
              clear hck hrc
              go_wp2_with (refine load_c rfl (.tmp 3) rfl w.heap.size rfl HHR.out ?_)
              refine (rrow_any wr k m t HKM.out (by have := HLT.out; have := HNN.out; omega)).mono ?_
              rintro e w2 ⟨v2, rfl, how2, s2⟩
              obtain ⟨a2, c2, rfl⟩ := how2.form
              rw [length_lf] at how2 ⊢
              have B2 := Lib.hid how2
              have S2 := Lib.hid (HST.out.trans s2)
              have R2 := Lib.hid (HR.out.stay0 s2)
              have LF2 := Lib.hid (HLF.out.stay0 s2)
              have HW2 := Lib.hid (show wr.heap.size ≤ w2.heap.size from s2.size)
              have HO8 := Lib.hid HR.out.lt
              have HO9 := Lib.hid HLF.out.lt
              have HCN := Lib.hid (show rc ≤ 65535 by omega)
              have HZ2 := Lib.hid (show w1.heap.size ≤ w2.heap.size from S2.out.size)
              have k3 := s2.cell k1 (fun x => x)
              clear how2 s2 k1 k2 kc
              go_wp2_with (first
                | (at_builtin
                   refine append_l (w := w2) rfl (.tmp 74) (.tmp 76) rfl (x1 := .slice a2 k c2) rfl rfl R2.out ⟨_, _, _, rfl⟩ (show SSlc _ w2 _ (lf k (rowF k (T.getD rc 0))) from by
                     rw [HRK.out]
                     exact Owns.ss B2.out (fun i e => by
                       rcases e with e | e
                       · exact (HO9.out _ e).2
                       · exact (HO8.out _ e).2)) (fun i e => by have := (HO9.out _ e).2; have := HW2.out; omega) HZ2.out HCN.out ?_
                   intro v8' w3 r3 s3 o3
                   have R3 := Lib.hid r3
                   have S3 := Lib.hid (stay_grow S2.out s3 (fun i e => (HO8.out i e).1))
                   have LF3 := Lib.hid (LF2.out.push (Y := fun i => v8'.ownBlock = some i) s3 (fun i hi e => by
                     rcases o3 with o | o
                     · exact o ▸ e
                     · rw [o] at e
                       have : i = w2.heap.size + 1 := by simpa using e.symm
                       omega))
                   have HW3 := Lib.hid s3.size
                   have k4 := (HSR.out.stay S3.out).now
                   clear r3 s3 o3 k3)
                | (at_builtin
                   refine append_l (w := w3) rfl (.tmp 78) (.tmp 83) rfl (x1 := .slice ak (L t) ck) rfl rfl LF3.out ⟨_, _, _, rfl⟩ (show SSlc _ w3 _ (lf (L (T.getD rc 0)) (D (T.getD rc 0))) from by
                     rw [HRK.out]
                     exact SR.out.push S3.out (fun i hi e => by
                       rcases e with e | e
                       · have := (R3.out.lt _ e).1; omega
                       · have := (HO9.out _ e).1; omega)) (fun i e => (R3.out.lt _ e).2) (by have := HZ2.out; have := HW3.out; omega) HCN.out ?_
                   intro v9' w4 l4 s4 o4
                   have L4 := Lib.hid l4
                   have S4 := Lib.hid (stay_grow S3.out s4 (fun i e => (HO9.out i e).1))
                   have R4 := Lib.hid (R3.out.push (Y := fun i => v9'.ownBlock = some i) s4 (fun i hi e => by
                     rcases o4 with o | o
                     · exact o ▸ e
                     · rw [o] at e
                       have : i = w3.heap.size + 1 := by simpa using e.symm
                       omega))
                   clear l4 s4 o4))
              have hlt := HLT.out
              first
                | exact ⟨by exact ⟨t + 1, by omega, by go_num, by rw [sel_true HF.out, HRM.out]; exact R4.out, by rw [sel_true HF.out, HRM.out]; exact L4.out, by rw [sel_true HF.out, if_neg (Nat.succ_ne_zero _)] <;> rw [HLE.out], by rw [sel_true HF.out]; simp, by rw [sel_true HF.out]; first | exact HEV2.out | exact fun i hi => (HEV2.out i hi).trans HLE.out.symm, S4.out⟩, by simp [intOf]; omega⟩
                | (go_round
                   case rel => exact ⟨t + 1, by omega, by go_num, by rw [sel_true HF.out, HRM.out]; exact R4.out, by rw [sel_true HF.out, HRM.out]; exact L4.out, by rw [sel_true HF.out, if_neg (Nat.succ_ne_zero _)] <;> rw [HLE.out], by rw [sel_true HF.out]; simp, by rw [sel_true HF.out]; first | exact HEV2.out | exact fun i hi => (HEV2.out i hi).trans HLE.out.symm, S4.out⟩
                   case measure => simp [intOf]; omega)
            · have q7 : ¬ (rc : Int) < (k : Int) := by omega
              have HRM := Lib.hid (show min ((sel fl t).length + 1) k = rc by omega)
              clear hck hrc
              go_wp2
              have hlt := HLT.out
              first
                | exact ⟨by exact ⟨t + 1, by omega, by go_num, by rw [sel_true HF.out, HRM.out]; exact HR.out, by rw [sel_true HF.out, HRM.out]; exact HLF.out, by rw [sel_true HF.out, if_neg (Nat.succ_ne_zero _)] <;> rw [HLE.out], by rw [sel_true HF.out]; simp, by rw [sel_true HF.out]; first | exact HEV2.out | exact fun i hi => (HEV2.out i hi).trans HLE.out.symm, HST.out⟩, by simp [intOf]; omega⟩
                | (go_round
                   case rel => exact ⟨t + 1, by omega, by go_num, by rw [sel_true HF.out, HRM.out]; exact HR.out, by rw [sel_true HF.out, HRM.out]; exact HLF.out, by rw [sel_true HF.out, if_neg (Nat.succ_ne_zero _)] <;> rw [HLE.out], by rw [sel_true HF.out]; simp, by rw [sel_true HF.out]; first | exact HEV2.out | exact fun i hi => (HEV2.out i hi).trans HLE.out.symm, HST.out⟩
                   case measure => simp [intOf]; omega)
          · have q6 : ((L t : Int) != (lz : Int)) = true := by simp; omega
            have HNE := Lib.hid hne
            clear hc0
            go_wp2
            go_ret2
            refine ⟨S1.out.trans HST.out, .inl ⟨?_, rfl⟩⟩
            have hlen : (sel fl t).length < T.length := by
              obtain ⟨r, hr⟩ := sel_pre fl (n := N) (t := t + 1) (by have := HLT.out; omega)
              rw [HT.out, hr, List.length_append, sel_true HF.out]
              omega
            cases hev : evenB T.length (fun i => L (T.getD i 0)) with
            | false => rfl
            | true =>
              have h1 := evenB_true.1 hev _ hlen
              rw [HSA.out] at h1
              exact absurd (h1.trans HLZ.out.symm) HNE.out
    · obtain rfl : t = N := by omega
      rw [← HT.out] at hr hlf hev ⊢
      have hevb : evenB T.length (fun i => L (T.getD i 0)) = true := evenB_true.2 (fun i hi => by rw [hev i hi, HLZ.out])
      obtain ⟨a8, c8, rfl, _⟩ := hr.form
      obtain ⟨a9, c9, rfl, _⟩ := hlf.form
      have HE := Lib.hid hevb
      have kc := hst.cell C0.out (fun x => x)
      have HEV := Lib.hid hev
      have HST := Lib.hid hst
      have HRR := Lib.hid (hr.read.mono (Y := fun _ => False) (fun _ x => x.elim))
      have HLL := Lib.hid (hlf.read.mono (Y := fun _ => False) (fun _ x => x.elim))
      obtain ⟨z10, hz10⟩ : ∃ z : Int, z = (if T.length = 0 then (0 : Int) else (lz : Int)) := ⟨_, rfl⟩
      obtain ⟨b11, hb11⟩ : ∃ z : Bool, z = decide (0 < T.length) := ⟨_, rfl⟩
      rw [← hz10, ← hb11]
      have HZ10 := Lib.hid hz10
      clear hr hlf hst hev hevb hz10 hb11
      by_cases hck : T.length < k
      · obtain ⟨rc, hrc⟩ : ∃ rc, rc = min T.length k := ⟨_, rfl⟩
        rw [← hrc]
        have q7 : (rc : Int) < (k : Int) := by omega
        have HCK := Lib.hid hck
        clear hck hrc HRR HLL
        go_wp2
        go_ret2
        exact ⟨S1.out.trans HST.out, .inr (.inl ⟨HE.out, HCK.out, rfl⟩)⟩
      · have hmin : min T.length k = k := by omega
        rw [hmin] at HRR HLL ⊢
        have q7 : ¬ (k : Int) < (k : Int) := by omega
        have HCK := Lib.hid (show k ≤ T.length by omega)
        have HLB := Lib.hid (show lz ≤ 140737488355327 by
          have h0 : 0 < (sel fl t).length := by rw [← HT.out]; have := HK.out; omega
          have h1 := sel_lt h0
          rw [← HT.out] at h1
          rw [HLZ.out]
          exact HL.out _ h1.1 h1.2)
        have HSQ := Lib.hid (show sqB k (fun _ => k) = true from sqB_true.2 ⟨HK.out, by have := HKM.out; omega, fun _ _ => rfl⟩)
        have HLL2 := Lib.hid (HLL.out.congr (L' := fun _ => lz) (fun i hi => HEV.out i (by have := HCK.out; omega)) (fun _ _ _ _ => rfl))
        clear hck hmin HLL
        go_wp2_with fail
        refine (rinvert_good wr _ k (fun _ => k) _ HRR.out HSQ.out).mono ?_
        rintro e w2 ⟨s2, hres⟩
        have S2 := Lib.hid (HST.out.trans s2)
        have L2 := Lib.hid (HLL2.out.stay s2)
        have HZ := Lib.hid s2.size
        clear s2 kc
        rcases hres with ⟨hr, rfl⟩ | ⟨R, vi, hr, rfl, hv⟩
        · have HR := Lib.hid hr
          clear hr
          go_wp2
          go_ret2
          exact ⟨S1.out.trans S2.out, .inr (.inr ⟨HE.out, HCK.out, .inl ⟨HR.out, rfl⟩⟩)⟩
        · obtain ⟨ai, ci, rfl, _⟩ := hv.form
          have HR := Lib.hid hr
          have HV := Lib.hid (hv.mono (Y := fun _ => False) (fun _ x => x.elim))
          clear hr hv
          rw [show z10 = (lz : Int) from HZ10.out.trans (if_neg (by have := HCK.out; have := HK.out; omega))]
          go_wp2
          go_loopw [17, 18] (fun v i wr2 => ∃ s : Nat, s ≤ k ∧ i = .int .i64 (s : Int) ∧ AL (fun _ => False) w2.heap.size wr2 v s (fun _ => lz) (prodF k (backR k R) (fun i => D (T.getD i 0))) ∧ Stay (fun _ => False) w2 wr2) (fun _ i _ => k - (intOf i).toNat)
          case atStart => exact ⟨0, by omega, rfl, AL.nil _ _ _ _ _, Stay.refl _ _⟩
          case round =>
            obtain ⟨s, hs, rfl, hal, hst⟩ := hrel
            have kc := (S2.out.trans hst).cell C0.out (fun x => x)
            by_cases hlt : s < k
            · have r1 : (s : Int) < (k : Int) := by omega
              obtain ⟨bi, oi, asl, cs, rfl, cR, sR, _⟩ := HV.out.row hlt
              have kr := (cR.stay hst).now
              have HAL := Lib.hid hal
              have HLO := Lib.hid hal.lt
              have HST2 := Lib.hid hst
              have HS := Lib.hid hlt
              have SRR := Lib.hid (sR.stay hst)
              clear hal hst hlt cR sR
              go_wp2_with fail
              refine (rpart_any wr _ _ k k lz (backR k R s) (fun _ => lz) (fun i => D (T.getD i 0)) SRR.out (L2.out.stay HST2.out) (Nat.le_refl _) (by have := HKM.out; omega) (fun _ _ => Nat.le_refl _) HLB.out).mono ?_
              rintro e w3 ⟨v3, rfl, how3, s3⟩
              obtain ⟨a3, c3, rfl⟩ := how3.form
              rw [length_lf] at how3 ⊢
              have HOW3 := Lib.hid how3
              have S3 := Lib.hid (HST2.out.trans s3)
              have HAL3 := Lib.hid (HAL.out.stay0 s3)
              clear how3 s3 kr kc
              go_wp2_with (first
                | (at_builtin
                   refine append_l (w := w3) rfl (.tmp 104) (.tmp 112) rfl rfl rfl HAL3.out ⟨_, _, _, rfl⟩ (Owns.ss HOW3.out (fun i e => by
                     rcases e with e | e
                     · exact e.elim
                     · exact (HLO.out i e).2)) (fun i e => e.elim) S3.out.size (by have := HS.out; omega) ?_
                   intro v4 w4 h4 s4 o4
                   have H4 := Lib.hid h4
                   have S4 := Lib.hid (stay_grow S3.out s4 (fun i e => (HLO.out i e).1))
                   clear h4 s4 o4))
              have hs := HS.out
              first
                | exact ⟨⟨s + 1, by omega, by go_num, H4.out, S4.out⟩, by simp [intOf]; omega⟩
                | (go_round
                   case rel => exact ⟨s + 1, by omega, by go_num, H4.out, S4.out⟩
                   case measure => simp [intOf]; omega)
            · obtain rfl : s = k := by omega
              have HAL := Lib.hid hal.read
              have HST2 := Lib.hid (S2.out.trans hst)
              have HHR := Lib.hid ((HST2.out.block _ (by have := HSZ1.out; omega) (fun x => x)).trans HH.out)
              clear hal hst
              go_wp2_with (refine load_c rfl (.tmp 3) rfl w.heap.size rfl HHR.out ?_)
              refine (rencode_any wr s m _ (fun _ => lz) _ HAL.out HK.out HKM.out HLB.out).mono ?_
              rintro e w5 ⟨s5, hres⟩
              have S5 := Lib.hid (HST2.out.trans s5)
              have HZ5 := Lib.hid (show w.heap.size ≤ wr.heap.size from Nat.le_trans S1.out.size HST2.out.size)
              rcases hres with ⟨he, _⟩ | ⟨_, v5, rfl, h5⟩
              · exfalso
                have : evenB s (fun _ => lz) = true := evenB_true.2 (fun _ _ => rfl)
                rw [this] at he
                cases he
              · obtain ⟨a5, c5, rfl, _⟩ := h5.form
                have H5 := Lib.hid (h5.mono (Y := fun i => i < w.heap.size) (fun i hi => Nat.lt_of_lt_of_le hi HZ5.out))
                clear s5 h5 kc
                go_wp2
                go_ret2
                exact ⟨S1.out.trans S5.out, .inr (.inr ⟨HE.out, HCK.out, .inr ⟨R, _, HR.out, rfl, by rw [HNN.out, ← HLZ.out]; exact H5.out⟩⟩)⟩
end Go.Proofs.YtaldpfamgfchoaaDoor.Rs
