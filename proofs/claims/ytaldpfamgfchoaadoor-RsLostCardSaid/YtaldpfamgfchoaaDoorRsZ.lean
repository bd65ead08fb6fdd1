/-
  rs, the document's: Split, Join.
-/
import Derived.Test.YtaldpfamgfchoaaDoorRsY
namespace Go.Proofs.YtaldpfamgfchoaaDoor.Rs
open Go.RowKit Gf
set_option maxRecDepth 100000

theorem lenS_is {l k s : Nat} (hk : 1 ≤ k) (h1 : l ≤ s * k) (h2 : s = 0 ∨ (s - 1) * k < l) : lenS l k = s := by
  unfold lenS
  rcases h2 with rfl | h2
  · have : l = 0 := by omega
    subst this
    exact Nat.div_eq_of_lt (by omega)
  · obtain ⟨s, rfl⟩ : ∃ u, s = u + 1 := ⟨s - 1, by
      cases s with
      | zero => omega
      | succ u => rfl⟩
    rw [Nat.add_sub_cancel] at h2
    have h3 : l + k - 1 = (l - s * k - 1) + k * (s + 1) := by
      rw [Nat.mul_succ, Nat.mul_comm k s]
      omega
    rw [h3, Nat.add_mul_div_left _ _ (by omega), Nat.div_eq_of_lt (by rw [Nat.succ_mul] at h1; omega)]
    omega

set_option maxHeartbeats 8000000 in
theorem rsplit_any (w : World) (k m l : Nat) (x : Value) (q : Nat → UInt8) (hx : SSlc (fun _ => False) w x (lf l q)) (hk : 1 ≤ k) (hkm : k + m ≤ 32) (hl : l ≤ 100000) :
    Calls Tryd.prog 30 #[codeV k m, x] w fun e w' => ∃ v, e = .returned v ∧ SM (fun i => i < w.heap.size) w' v k (fun _ => lenS l k) (splitF l (lenS l k) q) ∧ Stay (fun _ => False) w w' := by
  obtain ⟨ax, cx, rfl, _⟩ := hx.form
  rw [length_lf] at hx ⊢
  obtain ⟨w1, hw1⟩ : ∃ w1, w1 = w.alloc (.cells #[.int .i64 (k : Int), .int .i64 (m : Int)] 31) := ⟨_, rfl⟩
  have hs1 : Stay (fun _ => False) w w1 := hw1 ▸ Stay.alloc w _
  have hc0 : w1.cell? ⟨w.heap.size, 0, none⟩ = some (.int .i64 (k : Int)) := by rw [hw1, cell_of_row _ _ _ _ _ _ (heap_alloc_new w _)]; rfl
  have q1 : (k : Int) ≤ 32 := by omega
  have q2 : 1 ≤ (k : Int) := by omega
  have q3 : (l : Int) ≤ 100000 := by omega
  have S1 := Lib.hid hs1
  have C0 := Lib.hid hc0
  have HW := Lib.hid hw1
  have HX := Lib.hid (hx.stay hs1)
  have HK := Lib.hid hk
  have HKM := Lib.hid hkm
  have HL := Lib.hid hl
  unfold codeV
  clear hs1 hw1 hx hk hkm hl hc0
  go_enter Tryd.func30, Tryd.ntmps30
  go_wp2_with fail
  rw [← HW.out]
  go_loopw [5] (fun i wr => ∃ s : Nat, (s = 0 ∨ (s - 1) * k < l) ∧ i = .int .i64 (s : Int) ∧ wr = w1) (fun i _ => l - (intOf i).toNat)
  case atStart => exact ⟨0, .inl rfl, rfl, rfl⟩
  case round =>
    obtain ⟨s, hs, rfl, hwr⟩ := hrel
    have hwr2 := hwr.symm
    subst hwr2
    have c0 := C0.out
    obtain ⟨z, hz⟩ : ∃ z, z = s * k := ⟨_, rfl⟩
    have hsl : s ≤ l := by
      rcases hs with h | h
      · omega
      · have h1 : (s - 1) * 1 ≤ (s - 1) * k := Nat.mul_le_mul_left _ HK.out
        omega
    have hzb : z ≤ l + 32 := by
      rw [hz]
      rcases hs with h | h
      · rw [h, Nat.zero_mul]; omega
      · have h1 : s * k ≤ (s - 1 + 1) * k := Nat.mul_le_mul_right _ (by omega)
        rw [Nat.succ_mul] at h1
        have := HKM.out
        omega
    have e1 : (s : Int) * (k : Int) = (z : Int) := by rw [hz, Int.natCast_mul]
    have r0 : (z : Int) ≤ 100032 := by omega
    have r9 : (s : Int) ≤ 100000 := by omega
    have HZ := Lib.hid hz
    have HS := Lib.hid hs
    have HSL := Lib.hid hsl
    clear hz hs hsl hzb
    by_cases hlt : z < l
    · have r1 : (z : Int) < (l : Int) := by omega
      have HLT := Lib.hid hlt
      clear hlt
      go_wp2
      have hlt := HLT.out
      have hs2 : s < l := by
        have h1 : s * 1 ≤ s * k := Nat.mul_le_mul_left _ HK.out
        rw [← HZ.out] at h1
        omega
      first
        | exact ⟨⟨s + 1, .inr (by rw [Nat.add_sub_cancel, ← HZ.out]; exact HLT.out), by go_num, by first | rfl | trivial⟩, by simp [intOf]; omega⟩
        | (go_round
           case rel => exact ⟨s + 1, .inr (by rw [Nat.add_sub_cancel, ← HZ.out]; exact HLT.out), by go_num, by first | rfl | trivial⟩
           case measure => simp [intOf]; omega)
    · have r1 : ¬ (z : Int) < (l : Int) := by omega
      have HN := Lib.hid (lenS_is HK.out (by rw [← HZ.out]; omega) HS.out)
      clear hlt
      go_wp2
      go_loopw [6, 7] (fun v i w3 => ∃ t : Nat, t ≤ k ∧ i = .int .i64 (t : Int) ∧ AL (fun i => i < w.heap.size) w1.heap.size w3 v t (fun _ => s) (splitF l s q) ∧ Stay (fun _ => False) w1 w3) (fun _ i _ => k - (intOf i).toNat)
      case atStart => exact ⟨0, by omega, rfl, AL.nil _ _ _ _ _, Stay.refl _ _⟩
      case round =>
        obtain ⟨w0, hw0⟩ : ∃ x, x = wr := ⟨_, rfl⟩
        rw [← hw0] at hrel ⊢
        clear hw0 wr
        obtain ⟨t, ht, rfl, hal, hst⟩ := hrel
        have c2 := hst.cell C0.out (fun x => x)
        by_cases hlt : t < k
        · have r2 : (t : Int) < (k : Int) := by omega
          have HAL := Lib.hid hal
          have HLO := Lib.hid hal.lt
          have HST := Lib.hid hst
          have HT := Lib.hid hlt
          clear hal hst hlt
          go_wp2
          obtain ⟨y, hy⟩ : ∃ y, y = t * s := ⟨_, rfl⟩
          have hyb : y ≤ 3200000 := by
            rw [hy]
            have h1 : t * s ≤ 32 * 100000 := Nat.mul_le_mul (by have := HT.out; omega) (by omega)
            omega
          have r7 : (y : Int) ≤ 3200000 := by omega
          have e7 : (t : Int) * (s : Int) = (y : Int) := by rw [hy, Int.natCast_mul]
          have HY := Lib.hid hy
          clear hy hyb c2
          go_loopw [8, 9] (fun v i w3 => ∃ j : Nat, j ≤ s ∧ i = .int .i64 (j : Int) ∧ Owns w0.heap.size w3 v (lf j (splitF l s q t)) ∧ Stay (fun _ => False) w0 w3) (fun _ i _ => s - (intOf i).toNat)
          case atStart => exact ⟨0, by omega, rfl, Owns.nil _ _, Stay.refl _ _⟩
          case round =>
            obtain ⟨j, hj, rfl, how, hst⟩ := hrel
            by_cases hlt : j < s
            · have r3 : (j : Int) < (s : Int) := by omega
              have HOW := Lib.hid how
              have HOL := Lib.hid how.lt
              have HST2 := Lib.hid hst
              have HJ := Lib.hid hlt
              by_cases hin : y + j < l
              · have r4 : (y : Int) + (j : Int) < (l : Int) := by omega
                obtain ⟨yj, hyj⟩ : ∃ yj, yj = y + j := ⟨_, rfl⟩
                have e8 : (y : Int) + (j : Int) = (yj : Int) := by omega
                obtain ⟨ad, rfl, kb⟩ := Slc.at ((HX.out.stay HST.out).stay hst).now (show yj < l by omega)
                have r5 : (yj : Int) < (l : Int) := by omega
                have HYJ := Lib.hid hyj
                have HIN := Lib.hid hin
                clear how hst hlt hin hyj r4
                go_wp2_with (first
                  | (at_builtin
                     refine append_1 (w := wr) rfl (.tmp 47) (.tmp 49) rfl rfl rfl HOW.out (by
                       unfold splitF
                       rw [if_pos (by rw [← HY.out]; exact HIN.out), ← HY.out, HYJ.out]) HST2.out.size (by have := HJ.out; omega) ?_
                     intro v3 w3 h3 s3 o3
                     have H3 := Lib.hid h3
                     have S3 := Lib.hid (stay_grow HST2.out s3 (fun i e => (HOL.out i e).1))
                     clear h3 s3 o3))
                have hj := HJ.out
                first
                  | exact ⟨⟨j + 1, by omega, by go_num, H3.out, S3.out⟩, by simp [intOf]; omega⟩
                  | (go_round
                     case rel => exact ⟨j + 1, by omega, by go_num, H3.out, S3.out⟩
                     case measure => simp [intOf]; omega)
              · have r4 : ¬ (y : Int) + (j : Int) < (l : Int) := by omega
                have HIN := Lib.hid hin
                clear how hst hlt hin
                go_wp2_with (first
                  | (at_builtin
                     refine append_1 (w := wr) rfl (.tmp 47) (.tmp 49) rfl rfl rfl HOW.out (by
                       unfold splitF
                       rw [if_neg (by rw [← HY.out]; exact HIN.out)]
                       rfl) HST2.out.size (by have := HJ.out; omega) ?_
                     intro v3 w3 h3 s3 o3
                     have H3 := Lib.hid h3
                     have S3 := Lib.hid (stay_grow HST2.out s3 (fun i e => (HOL.out i e).1))
                     clear h3 s3 o3))
                have hj := HJ.out
                first
                  | exact ⟨⟨j + 1, by omega, by go_num, H3.out, S3.out⟩, by simp [intOf]; omega⟩
                  | (go_round
                     case rel => exact ⟨j + 1, by omega, by go_num, H3.out, S3.out⟩
                     case measure => simp [intOf]; omega)
            · obtain ⟨a3, c3, rfl⟩ := how.form
              rw [length_lf] at how ⊢
              have hjs : j = s := by omega
              subst hjs
              have HOW := Lib.hid how
              have S3 := Lib.hid (HST.out.trans hst)
              have HAL3 := Lib.hid (HAL.out.stay0 hst)
              have HSW := Lib.hid (show w.heap.size ≤ w0.heap.size from Nat.le_trans S1.out.size HST.out.size)
              clear how hst hlt
              go_wp2_with (first
                | (at_builtin
                   refine append_l (w := wr) rfl (.tmp 51) (.tmp 53) rfl rfl rfl HAL3.out ⟨_, _, _, rfl⟩ (Owns.ss HOW.out (fun i e => by
                     rcases e with e | e
                     · have := HSW.out; omega
                     · exact (HLO.out i e).2)) (fun i e => by have := Nat.le_trans S1.out.size S3.out.size; omega) S3.out.size (by have := HT.out; omega) ?_
                   intro v4 w4 h4 s4 o4
                   have H4 := Lib.hid h4
                   have S4 := Lib.hid (stay_grow S3.out s4 (fun i e => (HLO.out i e).1))
                   clear h4 s4 o4))
              have ht := HT.out
              first
                | exact ⟨⟨t + 1, by omega, by go_num, H4.out, S4.out⟩, by simp [intOf]; omega⟩
                | (go_round
                   case rel => exact ⟨t + 1, by omega, by go_num, H4.out, S4.out⟩
                   case measure => simp [intOf]; omega)
        · obtain rfl : t = k := by omega
          have HAL := Lib.hid hal.read
          have HST := Lib.hid hst
          clear hal hst
          go_wp2
          go_ret
          rw [HN.out]
          exact ⟨_, rfl, HAL.out, S1.out.trans HST.out⟩

theorem rjoin_arg (w : World) (k m N : Nat) (x : Value) (L : Nat → Nat) (D : Nat → Nat → UInt8) (n : Int) (hx : SM (fun _ => False) w x N L D) (hn : N < k ∨ n < 0) :
    Calls Tryd.prog 29 #[codeV k m, x, .int .i64 n] w fun e w' => e = .returned (.tuple #[.slice none 0 0, .int .i64 1]) ∧ Stay (fun _ => False) w w' := by
  obtain ⟨ax, cx, rfl, _⟩ := hx.form
  unfold codeV
  clear hx
  by_cases h1 : N < k
  · have q1 : (N : Int) < (k : Int) := by omega
    clear hn h1
    go_enter Tryd.func29, Tryd.ntmps29
    go_wp2
    go_ret2
    exact ⟨rfl, Stay.alloc _ _⟩
  · have q1 : ¬ (N : Int) < (k : Int) := by omega
    have q2 : n < 0 := by omega
    clear hn h1
    go_enter Tryd.func29, Tryd.ntmps29
    go_wp2
    go_ret2
    exact ⟨rfl, Stay.alloc _ _⟩

set_option maxHeartbeats 4000000 in
theorem rjoin_any (w : World) (k m N n : Nat) (x : Value) (L : Nat → Nat) (D : Nat → Nat → UInt8) (hx : SM (fun _ => False) w x N L D) (hN : k ≤ N) (hkm : k + m ≤ 32) (hs : sumN L k ≤ 140737488355327) (hn : n ≤ 9223372036854775807) :
    Calls Tryd.prog 29 #[codeV k m, x, .int .i64 (n : Int)] w fun e w' => Stay (fun _ => False) w w' ∧
      ((sumN L k < n ∧ e = .returned (.tuple #[.slice none 0 0, .int .i64 2])) ∨
       (n ≤ sumN L k ∧ ∃ v, e = .returned (.tuple #[v, .int .i64 0]) ∧ SSlc (fun i => i < w.heap.size) w' v (lf n (fun i => (catF L D k).getD i 0)))) := by
  obtain ⟨ax, cx, rfl, _⟩ := hx.form
  obtain ⟨w1, hw1⟩ : ∃ w1, w1 = w.alloc (.cells #[.int .i64 (k : Int), .int .i64 (m : Int)] 31) := ⟨_, rfl⟩
  have hs1 : Stay (fun _ => False) w w1 := hw1 ▸ Stay.alloc w _
  have hc0 : w1.cell? ⟨w.heap.size, 0, none⟩ = some (.int .i64 (k : Int)) := by rw [hw1, cell_of_row _ _ _ _ _ _ (heap_alloc_new w _)]; rfl
  obtain ⟨i0, hi, hz0, hz1, hz2⟩ := info_parts info5
  have HI := Lib.hid hi
  have HZ0 := Lib.hid hz0
  have HZ1 := Lib.hid hz1
  have HZ2 := Lib.hid hz2
  have q1 : (k : Int) ≤ 32 := by omega
  have q2 : ¬ (N : Int) < (k : Int) := by omega
  have q3 : ¬ (n : Int) < 0 := by omega
  have q4 : (k : Int) ≤ (N : Int) := by omega
  have q5 : (n : Int) ≤ 9223372036854775807 := by omega
  have S1 := Lib.hid hs1
  have C0 := Lib.hid hc0
  have HW := Lib.hid hw1
  have HX := Lib.hid (hx.stay hs1)
  have HN := Lib.hid hN
  have HKM := Lib.hid hkm
  have HS := Lib.hid hs
  unfold codeV
  clear hs1 hw1 hx hN hkm hs hc0 hn hi hz0 hz1 hz2
  go_enter Tryd.func29, Tryd.ntmps29
  go_wp2_with fail
  rw [← HW.out]
  go_loopw [8, 9] (fun v i wr => ∃ t : Nat, t ≤ k ∧ i = .int .i64 (t : Int) ∧ Owns w1.heap.size wr v (catF L D t) ∧ Stay (fun _ => False) w1 wr) (fun _ i _ => k - (intOf i).toNat)
  case atStart => exact ⟨0, by omega, rfl, Owns.nil _ _, Stay.refl _ _⟩
  case round =>
    obtain ⟨t, ht, rfl, how, hst⟩ := hrel
    have c0 := hst.cell C0.out (fun x => x)
    by_cases hlt : t < k
    · have r1 : (t : Int) < (k : Int) := by omega
      have r2 : (t : Int) < (N : Int) := by have := HN.out; omega
      obtain ⟨b, o, ak, ck, rfl, cR, sR, _⟩ := HX.out.row (k := t) (by have := HN.out; omega)
      have k1 := (cR.stay hst).now
      have HSR := Lib.hid (sR.stay hst).now
      have HOW := Lib.hid how
      have HOL := Lib.hid how.lt
      have HST := Lib.hid hst
      have HT := Lib.hid hlt
      clear how hst hlt cR sR
      go_wp2_with (first
        | (at_builtin
           refine wpList_append_slc rfl (.tmp 25) (.tmp 29) 38 rfl w1.heap.size i0 Tryd.underlying38 HI.out HZ0.out HZ1.out HZ2.out _ (.slice ak (L t) ck) (catF L D t) (lf (L t) (D t)) rfl rfl HOW.out HSR.out (by
             rw [length_lf, length_cat]
             have h1 := sumN_le L (n := k) (t := t + 1) (by have := HT.out; omega)
             have h2 : sumN L (t + 1) = sumN L t + L t := rfl
             have := HS.out
             omega) HST.out.size ?_
           intro v2 w2 o2 g2 _
           rw [← cat_succ] at o2
           have O2 := Lib.hid o2
           have S2 := Lib.hid (stay_grow HST.out (Stay.grown (X := fun i => _ = some i) g2 (fun k e => e)) (fun i e => (HOL.out i e).1))
           clear o2 g2))
      have ht := HT.out
      first
        | exact ⟨⟨t + 1, by omega, by go_num, O2.out, S2.out⟩, by simp [intOf]; omega⟩
        | (go_round
           case rel => exact ⟨t + 1, by omega, by go_num, O2.out, S2.out⟩
           case measure => simp [intOf]; omega)
    · obtain rfl : t = k := by omega
      obtain ⟨a8, c8, rfl⟩ := how.form
      have hc8 : (catF L D t).length ≤ c8 := by
        obtain ⟨_, _, e, _, _, h, _⟩ := how.slc
        cases e
        exact h
      obtain ⟨sz, hsz⟩ : ∃ sz, sz = (catF L D t).length := ⟨_, rfl⟩
      have HSZ := Lib.hid (show sz = sumN L t by rw [hsz, length_cat])
      rw [← hsz] at hc8 ⊢
      have HOW := Lib.hid how
      have HST := Lib.hid hst
      have HSZ2 := Lib.hid hsz
      clear how hst hsz
      by_cases hsn : sz < n
      · have q7 : (sz : Int) < (n : Int) := by omega
        have HSN := Lib.hid hsn
        clear hsn
        go_wp2
        go_ret2
        exact ⟨S1.out.trans HST.out, .inl ⟨by rw [← HSZ.out]; exact HSN.out, rfl⟩⟩
      · have q7 : ¬ (sz : Int) < (n : Int) := by omega
        have q8 : (n : Int) ≤ (c8 : Int) := by omega
        have HSN := Lib.hid (show n ≤ sz by omega)
        clear hsn
        go_wp2
        go_ret2
        refine ⟨S1.out.trans HST.out, .inr ⟨by rw [← HSZ.out]; exact HSN.out, _, rfl, ?_⟩⟩
        have h1 := HOW.out
        have h2 : SSlc (fun i => i < w.heap.size) wr (.slice a8 (catF L D t).length c8) (catF L D t) := Owns.ss h1 (fun i hi => Nat.lt_of_lt_of_le hi S1.out.size)
        intro u hu
        have h3 := Slc.first (h2 u hu) (k := n) (by rw [← HSZ2.out]; exact HSN.out)
        have e : (catF L D t).take n = lf n (fun i => (catF L D t).getD i 0) := by
          apply List.ext_getElem?
          intro i
          by_cases hi : i < n
          · rw [List.getElem?_take_of_lt hi, lf_get _ hi, List.getD_eq_getElem?_getD, List.getElem?_eq_getElem (by rw [← HSZ2.out]; have := HSN.out; omega)]
            rfl
          · rw [List.getElem?_eq_none (by rw [List.length_take]; omega), List.getElem?_eq_none (by rw [length_lf]; omega)]
        rw [e] at h3
        exact h3
end Go.Proofs.YtaldpfamgfchoaaDoor.Rs
