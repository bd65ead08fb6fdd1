/-
  rs, the document's: Part, Encode.
-/
import Derived.Test.YtaldpfamgfchoaaDoorRsU
namespace Go.Proofs.YtaldpfamgfchoaaDoor.Rs
open Go.RowKit Gf
set_option maxRecDepth 100000

set_option maxHeartbeats 4000000 in
theorem rpart_any (w : World) (x y : Value) (k k2 n : Nat) (R : Nat → UInt8) (L : Nat → Nat) (D : Nat → Nat → UInt8) (hx : SSlc (fun _ => False) w x (lf k R)) (hy : SM (fun _ => False) w y k2 L D) (hk : k ≤ k2) (hk2 : k ≤ 1000) (hL : ∀ j, j < k → n ≤ L j) (hn : n ≤ 140737488355327) :
    Calls Tryd.prog 39 #[x, y, .int .i64 (n : Int)] w fun e w' => ∃ v, e = .returned v ∧ Owns w.heap.size w' v (lf n (fun b => sumB k (fun j => mulB (R j) (D j b)))) ∧ Stay (fun _ => False) w w' := by
  obtain ⟨ax, cx, rfl, _⟩ := hx.form
  rw [length_lf] at hx ⊢
  obtain ⟨ay, cy, rfl, _⟩ := hy.form
  have q0 : (k : Int) ≤ (k2 : Int) := by omega
  have q1 : (n : Int) ≤ 140737488355327 := by omega
  have q2 : (k : Int) ≤ 1000 := by omega
  have HX := Lib.hid hx
  have HY := Lib.hid hy
  have HL := Lib.hid hL
  have HN := Lib.hid hn
  have HK := Lib.hid hk
  clear hx hy hL hn hk hk2
  go_enter Tryd.func39, Tryd.ntmps39
  go_wp2
  go_loopw [7, 8] (fun v i wr => ∃ b : Nat, b ≤ n ∧ i = .int .i64 (b : Int) ∧ Owns w.heap.size wr v (lf b (fun b => sumB k (fun j => mulB (R j) (D j b)))) ∧ Stay (fun _ => False) w wr) (fun _ i _ => n - (intOf i).toNat)
  case atStart => exact ⟨0, by omega, rfl, Owns.nil _ _, Stay.refl _ _⟩
  case round =>
    obtain ⟨w0, hw0⟩ : ∃ x, x = wr := ⟨_, rfl⟩
    rw [← hw0] at hrel ⊢
    clear hw0 wr
    obtain ⟨b, hb, rfl, how, hst⟩ := hrel
    by_cases hlt : b < n
    · have q3 : (b : Int) < (n : Int) := by omega
      have HST := Lib.hid hst
      have HB := Lib.hid hlt
      have HOW := Lib.hid how
      clear hst hlt how
      go_wp2
      go_loopw [9, 10] (fun v i wr => ∃ j : Nat, j ≤ k ∧ i = .int .i64 (j : Int) ∧ v = .int .u8 ((sumB j (fun j => mulB (R j) (D j b))).toNat : Int) ∧ Stay (fun _ => False) w0 wr) (fun _ i _ => k - (intOf i).toNat)
      case atStart => exact ⟨0, by omega, rfl, rfl, Stay.refl _ _⟩
      case round =>
        obtain ⟨j, hj, rfl, rfl, hst⟩ := hrel
        by_cases hlt : j < k
        · have q4 : (j : Int) < (k : Int) := by omega
          have q5 : (j : Int) < (k2 : Int) := by omega
          obtain ⟨bb, o, ak, ck, rfl, cD, sD, _⟩ := HY.out.row (k := j) (by have := HK.out; omega)
          have q6 : (b : Int) < (L j : Int) := by have := HL.out j hlt; have := HB.out; omega
          have sD2 := (sD.stay HST.out).stay hst
          have cD2 := ((cD.stay HST.out).stay hst).now
          obtain ⟨ad, rfl, c1⟩ := Slc.at ((HX.out.stay HST.out).stay hst).now hlt
          obtain ⟨ad2, rfl, c2⟩ := Slc.at sD2.now (show b < L j by have := HL.out j hlt; have := HB.out; omega)
          have H3 := Lib.hid hst
          have HJ := Lib.hid hlt
          clear hst hlt sD2 cD sD
          obtain ⟨s, hs⟩ : ∃ s, s = sumB j (fun j => mulB (R j) (D j b)) := ⟨_, rfl⟩
          rw [← hs]
          have HS := Lib.hid hs
          clear hs
          go_wp2
          go_region_held3 (fun W => W.cell? (ad.add j) = some (.int .u8 ((R j).toNat : Int)) ∧ W.cell? ⟨bb, o + j, none⟩ = some (.slice (some ad2) (L j) ck) ∧ W.cell? (ad2.add b) = some (.int .u8 ((D j b).toNat : Int))) (first | go_keep | exact ⟨c1, cD2, c2⟩)
            ((go_at_call 28
              refine (rmul_any _ (R j).toNat (D j b).toNat (u8_lt _) (u8_lt _)).mono ?_
              rintro e w3 ⟨rfl, rfl⟩))
          rw [xor_byte (u8_lt _) (mulN_lt _ _), ← mulB_nat, cast_xor]
          clear c1 c2 cD2
          go_wp2
          have hj := HJ.out
          first
            | exact ⟨⟨j + 1, by omega, by go_num, by rw [HS.out]; rfl, H3.out.trans Stay.drew⟩, by simp [intOf]; omega⟩
            | (go_round
               case rel => exact ⟨j + 1, by omega, by go_num, by rw [HS.out]; rfl, H3.out.trans Stay.drew⟩
               case measure => simp [intOf]; omega)
        · obtain rfl : j = k := by omega
          have H3 := Lib.hid hst
          have HLO := Lib.hid HOW.out.lt
          have HO3 := Lib.hid (HOW.out.stay0 hst)
          clear hst
          go_wp2_with (first
            | (at_builtin
               refine append_1 (w := wr) rfl (.tmp 36) (.tmp 38) rfl rfl rfl HO3.out rfl ((HST.out.trans H3.out).size) (by have := HB.out; have := HN.out; omega) ?_
               intro v3 w3 h3 s3 o3
               have H4 := Lib.hid h3
               have S4 := Lib.hid (stay_grow (HST.out.trans H3.out) s3 (fun i e => (HLO.out i e).1))
               clear h3 s3 o3))
          have hb := HB.out
          first
            | exact ⟨⟨b + 1, by omega, by go_num, H4.out, S4.out⟩, by simp [intOf]; omega⟩
            | (go_round
               case rel => exact ⟨b + 1, by omega, by go_num, H4.out, S4.out⟩
               case measure => simp [intOf]; omega)
    · obtain rfl : b = n := by omega
      have HOW := Lib.hid how
      have HST := Lib.hid hst
      clear hst how
      go_wp2
      go_ret
      exact ⟨_, rfl, HOW.out, HST.out⟩

theorem load_c {ops : Array Oper} {rest : List Oper} {o : Oper} {a : Act} {w : World} {Q : Exit → Act → World → Prop} (hgd : o.guard = none) (x : Operand) (ho : o.op = .load 31 x) (g : Nat) (hx : a.eval x = .pointer (some ⟨g, 0, none⟩)) {u v : Value}
    (h : w.heap[g]? = some (.cells #[u, v] 31 (0, 0))) (hn : wpList Tryd.prog ops Q rest (a.put o.dst (.agg #[u, v])) w) : wpList Tryd.prog ops Q (o :: rest) a w :=
  wpList_load_mid hgd 31 x ho g 0 hx 31 #[u, v] #[u, v] (0, 0) _ h Tryd.underlying31 rfl info_code (fun j _ => by rw [Nat.zero_add]) hn

theorem rencode_count (w : World) (k m n : Nat) (x : Value) (L : Nat → Nat) (D : Nat → Nat → UInt8) (hx : SM (fun _ => False) w x n L D) (hn : n ≠ k) :
    Calls Tryd.prog 22 #[codeV k m, x] w fun e w' => e = .returned (.tuple #[.slice none 0 0, .int .i64 1]) ∧ Stay (fun _ => False) w w' := by
  obtain ⟨ax, cx, rfl, _⟩ := hx.form
  have q0 : ((n : Int) != (k : Int)) = true := by simp; omega
  unfold codeV
  clear hx hn
  go_enter Tryd.func22, Tryd.ntmps22
  go_wp2
  go_ret2
  exact ⟨rfl, Stay.alloc _ _⟩

set_option maxHeartbeats 4000000 in
theorem rencode_any (w : World) (k m : Nat) (x : Value) (L : Nat → Nat) (D : Nat → Nat → UInt8) (hx : SM (fun _ => False) w x k L D) (hk : 1 ≤ k) (hkm : k + m ≤ 32) (hL : L 0 ≤ 140737488355327) :
    Calls Tryd.prog 22 #[codeV k m, x] w fun e w' => Stay (fun _ => False) w w' ∧
      ((evenB k L = false ∧ e = .returned (.tuple #[.slice none 0 0, .int .i64 2])) ∨
       (evenB k L = true ∧ ∃ v, e = .returned (.tuple #[v, .int .i64 0]) ∧ SM (fun i => i < w.heap.size) w' v (k + m) (fun _ => L 0) (prodF k (rowF k) D))) := by
  obtain ⟨ax, cx, rfl, _⟩ := hx.form
  obtain ⟨w1, hw1⟩ : ∃ w1, w1 = w.alloc (.cells #[.int .i64 (k : Int), .int .i64 (m : Int)] 31) := ⟨_, rfl⟩
  have hs1 : Stay (fun _ => False) w w1 := hw1 ▸ Stay.alloc w _
  have hh1 : w1.heap[w.heap.size]? = some (.cells #[.int .i64 (k : Int), .int .i64 (m : Int)] 31 (0, 0)) := by rw [hw1]; exact heap_alloc_new w _
  have hc0 : w1.cell? ⟨w.heap.size, 0, none⟩ = some (.int .i64 (k : Int)) := by rw [cell_of_row _ _ _ _ _ _ hh1]; rfl
  have hc1 : w1.cell? ⟨w.heap.size, 1, none⟩ = some (.int .i64 (m : Int)) := by rw [cell_of_row _ _ _ _ _ _ hh1]; rfl
  have q0 : ((k : Int) != (k : Int)) = false := by simp
  have q1 : (k : Int) + (m : Int) ≤ 32 := by omega
  have q2 : (0 : Int) < (k : Int) := by omega
  have S1 := Lib.hid hs1
  have C0 := Lib.hid hc0
  have C1 := Lib.hid hc1
  have HH := Lib.hid hh1
  have HW := Lib.hid hw1
  have HX := Lib.hid (hx.stay hs1)
  have HK := Lib.hid hk
  have HKM := Lib.hid hkm
  have HL := Lib.hid hL
  unfold codeV
  clear hs1 hw1 hx hk hkm hL hh1 hc0 hc1
  go_enter Tryd.func22, Tryd.ntmps22
  go_wp2_with fail
  rw [← HW.out]
  go_loopw [6] (fun i wr => ∃ j : Nat, 1 ≤ j ∧ j ≤ k ∧ i = .int .i64 (j : Int) ∧ (∀ l, l < j → L l = L 0) ∧ Stay (fun _ => False) w1 wr) (fun i _ => k - (intOf i).toNat)
  case atStart =>
    have := HK.out
    exact ⟨1, by omega, by omega, rfl, fun l hl => by rw [show l = 0 by omega], Stay.refl _ _⟩
  case round =>
    obtain ⟨j, hj1, hj, rfl, he, hst⟩ := hrel
    by_cases hlt : j < k
    · have q3 : (j : Int) < (k : Int) := by omega
      obtain ⟨b, o, ak, ck, rfl, cR, _, _⟩ := HX.out.row hlt
      obtain ⟨_, _, a0, c0, e0, cR0, _, _⟩ := HX.out.row (k := 0) (by omega)
      cases e0
      rw [Nat.add_zero] at cR0
      have k1 := (cR.stay hst).now
      have k0 := (cR0.stay hst).now
      have HST := Lib.hid hst
      have HE := Lib.hid he
      have HJ := Lib.hid hlt
      clear hst he hlt cR cR0
      go_wp2
      go_region
      all_goals
        by_cases hne : L j = L 0
        · have q4 : ((L j : Int) != (L 0 : Int)) = false := by rw [hne]; simp
          have HNE := Lib.hid hne
          clear hne k1 k0
          try rw [q4]
          go_wp2
          have hj := HJ.out
          first
            | exact ⟨⟨j + 1, by omega, by omega, by go_num, fun l hl => by
                by_cases e : l = j
                · rw [e]; exact HNE.out
                · exact HE.out l (by omega), HST.out.trans Stay.drew⟩, by simp [intOf]; omega⟩
            | (go_round
               case rel => exact ⟨j + 1, by omega, by omega, by go_num, fun l hl => by
                by_cases e : l = j
                · rw [e]; exact HNE.out
                · exact HE.out l (by omega), HST.out.trans Stay.drew⟩
               case measure => simp [intOf]; omega)
        · have q4 : ((L j : Int) != (L 0 : Int)) = true := by simp; omega
          have HNE := Lib.hid hne
          clear hne k1 k0
          try rw [q4]
          go_wp2
          go_ret2
          refine ⟨S1.out.trans (HST.out.trans Stay.drew), .inl ⟨?_, rfl⟩⟩
          have hj := HJ.out
          cases hev : evenB k L with
          | false => rfl
          | true => exact absurd (evenB_true.1 hev j hj) HNE.out
    · obtain rfl : j = k := by omega
      have HEV := Lib.hid (evenB_true.2 he)
      have HST := Lib.hid hst
      clear hst he
      go_wp2
      go_loopw [7, 8] (fun v i wr => ∃ s : Nat, s ≤ j + m ∧ i = .int .i64 (s : Int) ∧ AL (fun i => i < w.heap.size) w1.heap.size wr v s (fun _ => L 0) (prodF j (rowF j) D) ∧ Stay (fun _ => False) w1 wr) (fun _ i _ => j + m - (intOf i).toNat)
      case atStart => exact ⟨0, by omega, rfl, AL.nil _ _ _ _ _, HST.out⟩
      case round =>
        obtain ⟨s, hs, rfl, hal, hst⟩ := hrel
        have c0 := hst.cell C0.out (fun x => x)
        have c1 := hst.cell C1.out (fun x => x)
        have HH2 := Lib.hid ((hst.block _ (by have := S1.out.size; have := HW.out; rw [this]; simp) (fun x => x)).trans HH.out)
        by_cases hlt : s < j + m
        · have q3 : (s : Int) < (j : Int) + (m : Int) := by omega
          obtain ⟨b0, o0, a0, c00, rfl, cR0, sR0, _⟩ := HX.out.row (k := 0) (by have := HK.out; omega)
          rw [Nat.add_zero] at cR0
          have HST := Lib.hid hst
          have HAL := Lib.hid hal
          have HLO := Lib.hid hal.lt
          have HJ := Lib.hid hlt
          have HC0 := Lib.hid cR0
          have HSW := Lib.hid (show w.heap.size ≤ wr.heap.size from Nat.le_trans S1.out.size hst.size)
          clear hst hlt hal sR0
          go_wp2_with (refine load_c rfl (.tmp 2) rfl w.heap.size rfl HH2.out ?_)
          refine (rrow_any wr j m s HKM.out HJ.out).mono ?_
          rintro e w2 ⟨v2, rfl, how2, s2⟩
          obtain ⟨a2, c2, rfl⟩ := how2.form
          have HOW2 := Lib.hid how2
          have S2 := Lib.hid (HST.out.trans s2)
          have S2b := Lib.hid s2
          have k0 := (HC0.out.stay S2.out).now
          clear how2 s2 c0 c1
          rw [length_lf] at HOW2 ⊢
          go_wp2_with fail
          refine (rpart_any w2 _ _ j j (L 0) (rowF j s) L D (Slc.ss0 HOW2.out.slc) (HX.out.stay S2.out) (Nat.le_refl _) (by have := HKM.out; omega) (fun l hl => by rw [evenB_true.1 HEV.out l hl]; exact Nat.le_refl _) HL.out).mono ?_
          rintro e w3 ⟨v3, rfl, how3, s3⟩
          have S3 := Lib.hid (S2.out.trans s3)
          obtain ⟨a3, c3, rfl⟩ := how3.form
          rw [length_lf] at how3 ⊢
          have HOW3 := Lib.hid how3
          have HAL3 := Lib.hid ((HAL.out.stay0 S2b.out).stay0 s3)
          clear how3 s3 k0
          go_wp2_with (first
            | (at_builtin
               refine append_l (w := w3) rfl (.tmp 47) (.tmp 55) rfl rfl rfl HAL3.out ⟨_, _, _, rfl⟩ (Owns.ss HOW3.out (fun i e => by
                 have := S2b.out.size
                 rcases e with e | e
                 · have := HSW.out; omega
                 · have := (HLO.out i e).2; omega)) (fun i e => by have := HSW.out; have h1 := (S3.out).size; have := S1.out.size; omega) S3.out.size (by have := HJ.out; have := HKM.out; omega) ?_
               intro v4 w4 h4 s4 o4
               have H4 := Lib.hid h4
               have S4 := Lib.hid (stay_grow S3.out s4 (fun i e => (HLO.out i e).1))
               clear h4 s4 o4))
          have hj := HJ.out
          first
            | exact ⟨⟨s + 1, by omega, by go_num, H4.out, S4.out⟩, by simp [intOf]; omega⟩
            | (go_round
               case rel => exact ⟨s + 1, by omega, by go_num, H4.out, S4.out⟩
               case measure => simp [intOf]; omega)
        · obtain rfl : s = j + m := by omega
          have q3 : ¬ ((j + m : Nat) : Int) < (j : Int) + (m : Int) := by omega
          have HAL := Lib.hid hal
          have HST := Lib.hid hst
          clear hst hal hlt
          go_wp2
          go_ret2
          exact ⟨S1.out.trans HST.out, .inr ⟨HEV.out, _, rfl, HAL.out.read⟩⟩
end Go.Proofs.YtaldpfamgfchoaaDoor.Rs
