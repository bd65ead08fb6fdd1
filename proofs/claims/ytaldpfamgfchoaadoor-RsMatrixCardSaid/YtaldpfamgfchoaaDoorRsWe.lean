/-
  RsMatrix, walked.
-/
import Derived.Test.YtaldpfamgfchoaaDoorRsWb
namespace Go.Proofs.YtaldpfamgfchoaaDoor.Rs
open Go.RowKit Gf
set_option maxRecDepth 100000

set_option maxHeartbeats 1000000 in
theorem matrix_long (w : World) (a0 : Option Addr) (n c0 : Nat) (L : Nat → Nat) (M : Nat → Nat → UInt8) (hx : SM (fun _ => False) w (.slice a0 n c0) n L M) (hL : ∀ i, i < n → L i ≤ 140737488355328) (hb : longB n L = true) :
    Calls Tryd.prog 5 #[.slice a0 n c0] w fun e w' => e = .returned (.bool true) ∧ Stay (fun _ => False) w w' := by
  have HX := Lib.hid hx
  have HL := Lib.hid hL
  have HB := Lib.hid hb
  clear hx hL hb
  go_enter Tryd.func5, Tryd.ntmps5
  go_wp2_with fail
  refine (long_any w _ n L M HX.out HL.out).mono ?_
  rintro e w4 ⟨rfl, e4⟩
  cases e4
  rw [HB.out]
  go_wp2_with fail
  refine (sure_any w).mono ?_
  rintro e w5 ⟨rfl, s5⟩
  have S5 := Lib.hid s5
  clear s5
  go_wp2
  try go_ret
  exact ⟨rfl, S5.out⟩

set_option maxHeartbeats 1000000 in
theorem matrix_err (w : World) (a0 : Option Addr) (n c0 : Nat) (L : Nat → Nat) (M : Nat → Nat → UInt8) (c : Int) (hg : ErrCell w) (hx : SM (fun _ => False) w (.slice a0 n c0) n L M) (hL : ∀ i, i < n → L i ≤ 140737488355328) (hb : longB n L = false)
    (hI : ∀ W v, SM (fun _ => False) W v n L M → Calls Tryd.prog 26 #[v] W fun e w' => e = .returned (.tuple #[.slice none 0 0, .iface 64 (.int .i64 c)]) ∧ Stay (fun _ => False) W w')
    (hR : ∀ W v, SM (fun _ => False) W v n L M → Calls Tryd.prog 27 #[v] W fun e w' => e = .returned (.tuple #[.slice none 0 0, .int .i64 c]) ∧ Stay (fun _ => False) W w') :
    Calls Tryd.prog 5 #[.slice a0 n c0] w fun e w' => e = .returned (.bool true) ∧ Stay (fun _ => False) w w' := by
  have HX := Lib.hid hx
  have HL := Lib.hid hL
  have HB := Lib.hid hb
  have HG := Lib.hid hg
  have HI := Lib.hid hI
  have HR := Lib.hid hR
  clear hx hL hb hg hI hR
  go_enter Tryd.func5, Tryd.ntmps5
  go_wp2_with fail
  refine (long_any w _ n L M HX.out HL.out).mono ?_
  rintro e w1 ⟨rfl, e4⟩
  cases e4
  rw [HB.out]
  have HN := Lib.hid (longB_false HB.out)
  go_wp2_with fail
  refine (twins_any w _ n L M HX.out (by have := HN.out.1; omega) HL.out).mono ?_
  rintro e w1 ⟨vt, rfl, ht, s1⟩
  have HT := Lib.hid ht
  have S1 := Lib.hid s1
  clear ht s1
  go_wp2_with fail
  refine (HI.out w1 _ (HT.out.mono (fun _ x => x.elim))).mono ?_
  rintro e w2 ⟨rfl, s2⟩
  have S2 := Lib.hid s2
  clear s2
  go_wp2_with fail
  refine (HR.out w2 _ (HX.out.stay (S1.out.trans S2.out))).mono ?_
  rintro e w3 ⟨rfl, s3⟩
  have S3 := Lib.hid s3
  clear s3
  go_wp2_with fail
  refine (lists_same w3 _ _ 0 L M (SM.none _ _ _ _) (SM.none _ _ _ _)).mono ?_
  rintro e w4 ⟨rfl, s4⟩
  have S4 := Lib.hid s4
  clear s4
  go_wp2_with fail
  refine (num_errno c w4 ((((HG.out.stay0 S1.out).stay0 S2.out).stay0 S3.out).stay0 S4.out)).mono ?_
  rintro e w5 ⟨rfl, s5⟩
  have S5 := Lib.hid s5
  clear s5
  go_wp2_with fail
  refine (sure_any w5).mono ?_
  rintro e w6 ⟨rfl, s6⟩
  have S6 := Lib.hid s6
  clear s6
  go_wp2
  try go_ret
  exact ⟨rfl, (((S1.out.trans S2.out).trans S3.out).trans (S4.out.trans S5.out)).trans S6.out⟩

theorem one_at {n : Nat} {m R : Nat → Nat → UInt8} (h : runR n (augR n m) n = some R) {i j : Nat} (hi : i < n) (hj : j < n) : sumB n (fun k => mulB (m i k) (backR n R k j)) = if i = j then 1 else 0 := by
  have h1 := inv_right h (fun l => if l = j then 1 else 0) i hi
  have h2 : mulV n m (mulV n (backR n R) (fun l => if l = j then 1 else 0)) i = dot n (m i) (fun k => backR n R k j) := dot_congr (fun _ _ => rfl) (fun k _ => dot_unit (backR n R k) hj)
  rw [h2] at h1
  exact h1

set_option maxHeartbeats 4000000 in
theorem matrix_good (w : World) (a0 : Option Addr) (n c0 : Nat) (L : Nat → Nat) (M : Nat → Nat → UInt8) (R : Nat → Nat → UInt8) (hg : ErrCell w) (hx : SM (fun _ => False) w (.slice a0 n c0) n L M) (hL : ∀ i, i < n → L i ≤ 140737488355328) (hb : longB n L = false) (hs : sqB n L = true) (hr : runR n (augR n M) n = some R) :
    Calls Tryd.prog 5 #[.slice a0 n c0] w fun e w' => e = .returned (.bool true) ∧ Stay (fun _ => False) w w' := by
  have HX := Lib.hid hx
  have HL := Lib.hid hL
  have HB := Lib.hid hb
  have HG := Lib.hid hg
  have HS := Lib.hid hs
  have HRR := Lib.hid hr
  have HQ := Lib.hid (sqB_true.1 hs)
  have qn : (n : Int) ≤ 32 := by have := HQ.out.2.1; omega
  clear hx hL hb hg hs hr
  go_enter Tryd.func5, Tryd.ntmps5
  go_wp2_with fail
  refine (long_any w _ n L M HX.out HL.out).mono ?_
  rintro e w1 ⟨rfl, e4⟩
  cases e4
  rw [HB.out]
  have HN := Lib.hid (longB_false HB.out)
  go_wp2_with fail
  refine (twins_any w _ n L M HX.out (by have := HN.out.1; omega) HL.out).mono ?_
  rintro e w1 ⟨vt, rfl, ht, s1⟩
  have HT := Lib.hid ht
  have S1 := Lib.hid s1
  clear ht s1
  go_wp2_with fail
  refine (invert_good w1 _ n L M (HT.out.mono (fun _ x => x.elim)) HS.out).mono ?_
  rintro e w2 ⟨s2, ⟨hno, _⟩ | ⟨R1, v1, hR1, rfl, h1⟩⟩
  · rw [HRR.out] at hno; cases hno
  obtain rfl : R1 = R := Option.some.inj (hR1.symm.trans HRR.out)
  have S2 := Lib.hid s2
  have HV1 := Lib.hid (h1.mono (Y := fun _ => False) (fun _ x => x.elim))
  clear s2 hR1 h1
  go_wp2_with fail
  refine (rinvert_good w2 _ n L M (HX.out.stay (S1.out.trans S2.out)) HS.out).mono ?_
  rintro e w3 ⟨s3, ⟨hno, _⟩ | ⟨R2, v2, hR2, rfl, h2⟩⟩
  · rw [HRR.out] at hno; cases hno
  obtain rfl : R2 = R1 := Option.some.inj (hR2.symm.trans HRR.out)
  have S3 := Lib.hid s3
  have HV2 := Lib.hid (h2.mono (Y := fun _ => False) (fun _ x => x.elim))
  clear s3 hR2 h2
  go_wp2_with fail
  refine (lists_same w3 _ _ n _ _ (HV1.out.stay S3.out) HV2.out).mono ?_
  rintro e w4 ⟨rfl, s4⟩
  have S4 := Lib.hid s4
  clear s4
  go_wp2_with fail
  refine (num_nil w4).mono ?_
  rintro e w5 ⟨rfl, s5⟩
  have S5 := Lib.hid s5
  clear s5
  go_wp2_with fail
  obtain ⟨Z, hZ, hZM⟩ := inv_inv HRR.out
  have hsq : sqB n (fun _ => n) = true := sqB_true.2 ⟨HQ.out.1, HQ.out.2.1, fun _ _ => rfl⟩
  refine (invert_good w5 _ n (fun _ => n) (backR n R2) (HV1.out.stay ((S3.out.trans S4.out).trans S5.out)) hsq).mono ?_
  rintro e w6 ⟨s6, ⟨hno, _⟩ | ⟨R3, v3, hR3, rfl, h3⟩⟩
  · rw [hZ] at hno; cases hno
  obtain rfl : R3 = Z := Option.some.inj (hR3.symm.trans hZ)
  have S6 := Lib.hid s6
  have HV3 := Lib.hid (((h3.mono (Y := fun _ => False) (fun _ x => x.elim)).congr (L' := fun _ => n) (M' := M) (fun _ _ => rfl) (fun i hi c hc => hZM i hi c hc)))
  have HX6 := Lib.hid ((HX.out.stay (((S1.out.trans S2.out).trans S3.out).trans ((S4.out.trans S5.out).trans s6))).congr (L' := fun _ => n) (M' := M) (fun i hi => HQ.out.2.2 i hi) (fun _ _ _ _ => rfl))
  have HV26 := Lib.hid (HV2.out.stay ((S4.out.trans S5.out).trans s6))
  clear s6 hR3 h3 hZ hZM hsq
  obtain ⟨ay, cy, rfl, _⟩ := HV26.out.form
  go_wp2_with fail
  go_loopw [9] (fun i wr => ∃ t : Nat, t ≤ n ∧ i = .int .i64 (t : Int) ∧ Stay (fun _ => False) w6 wr) (fun i _ => n - (intOf i).toNat)
  case atStart => exact ⟨0, by omega, rfl, Stay.refl _ _⟩
  case round =>
    obtain ⟨wq, hwq⟩ : ∃ x, x = wr := ⟨_, rfl⟩
    rw [← hwq] at hrel ⊢
    clear hwq wr
    obtain ⟨i0, hi, rfl, hst⟩ := hrel
    by_cases hlt : i0 < n
    · have q1 : (i0 : Int) < (n : Int) := by omega
      have HST := Lib.hid hst
      have HI := Lib.hid hlt
      clear hst hlt
      go_wp2
      go_loopw [10] (fun i wr => ∃ t : Nat, t ≤ n ∧ i = .int .i64 (t : Int) ∧ Stay (fun _ => False) w6 wr) (fun i _ => n - (intOf i).toNat)
      case atStart => exact ⟨0, by omega, rfl, HST.out⟩
      case round =>
        obtain ⟨wp, hwp⟩ : ∃ x, x = wr := ⟨_, rfl⟩
        rw [← hwp] at hrel ⊢
        clear hwp wr
        obtain ⟨j, hj, rfl, hst⟩ := hrel
        by_cases hlt : j < n
        · have q2 : (j : Int) < (n : Int) := by omega
          have HJ := Lib.hid hlt
          have H2 := Lib.hid hst
          clear hst hlt
          go_wp2
          go_loopw [11, 13] (fun s i wr => ∃ t : Nat, t ≤ n ∧ i = .int .i64 (t : Int) ∧ s = .int .u8 ((sumB t (fun k => mulB (M i0 k) (backR n R2 k j))).toNat : Int) ∧ Stay (fun _ => False) w6 wr) (fun _ i _ => n - (intOf i).toNat)
          case atStart => exact ⟨0, by omega, rfl, rfl, H2.out⟩
          case round =>
            obtain ⟨t, ht, rfl, rfl, hst⟩ := hrel
            by_cases hlt : t < n
            · have q3 : (t : Int) < (n : Int) := by omega
              obtain ⟨bx, ox, ak, ck, rfl, cR, sR, _⟩ := HX6.out.row HI.out
              obtain ⟨by_, oy, ak1, ck1, rfl, cR1, sR1, _⟩ := HV26.out.row hlt
              have k1 := (cR.stay hst).now
              have k2 := (cR1.stay hst).now
              obtain ⟨ad, rfl, d1⟩ := Slc.at (sR.stay hst).now hlt
              obtain ⟨ad2, rfl, d2⟩ := Slc.at (sR1.stay hst).now HJ.out
              have H3 := Lib.hid hst
              have HTT := Lib.hid hlt
              clear hst hlt cR sR cR1 sR1
              obtain ⟨s, hs⟩ : ∃ s, s = sumB t (fun k => mulB (M i0 k) (backR n R2 k j)) := ⟨_, rfl⟩
              rw [← hs]
              have HSS := Lib.hid hs
              clear hs
              go_wp2
              go_region_held3 (fun W => W.cell? ⟨bx, ox + i0, none⟩ = some (.slice (some ad) n ck) ∧ W.cell? (ad.add t) = some (.int .u8 ((M i0 t).toNat : Int)) ∧ W.cell? ⟨by_, oy + t, none⟩ = some (.slice (some ad2) n ck1) ∧ W.cell? (ad2.add j) = some (.int .u8 ((backR n R2 t j).toNat : Int))) (first | go_keep | exact ⟨k1, d1, k2, d2⟩)
                ((go_at_call 28
                  refine (rmul_any _ (M i0 t).toNat (backR n R2 t j).toNat (u8_lt _) (u8_lt _)).mono ?_
                  rintro e w3 ⟨rfl, rfl⟩))
              rw [xor_byte (u8_lt _) (mulN_lt _ _), ← mulB_nat, cast_xor]
              clear k1 k2 d1 d2
              go_wp2
              have hj := HTT.out
              first
                | exact ⟨⟨t + 1, by omega, by go_num, by rw [HSS.out]; rfl, H3.out.trans Stay.drew⟩, by simp [intOf]; omega⟩
                | (go_round
                   case rel => exact ⟨t + 1, by omega, by go_num, by rw [HSS.out]; rfl, H3.out.trans Stay.drew⟩
                   case measure => simp [intOf]; omega)
            · obtain rfl : t = n := by omega
              rw [one_at HRR.out HI.out HJ.out]
              have H3 := Lib.hid hst
              clear hst
              by_cases e : i0 = j
              · subst e
                rw [if_pos rfl, show (((1 : UInt8).toNat : Nat) : Int) = 1 from rfl]
                go_wp2
                have hj := HI.out
                first
                  | exact ⟨⟨i0 + 1, by omega, by go_num, H3.out⟩, by simp [intOf]; omega⟩
                  | (go_round
                     case rel => exact ⟨i0 + 1, by omega, by go_num, H3.out⟩
                     case measure => simp [intOf]; omega)
              · rw [if_neg e, show (((0 : UInt8).toNat : Nat) : Int) = 0 from rfl]
                have q4 : ((i0 : Int) == (j : Int)) = false := by simp; omega
                have q5 : ¬ (i0 : Int) = (j : Int) := by omega
                go_wp2
                have hj := HJ.out
                first
                  | exact ⟨⟨j + 1, by omega, by go_num, H3.out⟩, by simp [intOf]; omega⟩
                  | (go_round
                     case rel => exact ⟨j + 1, by omega, by go_num, H3.out⟩
                     case measure => simp [intOf]; omega)
        · obtain rfl : j = n := by omega
          have H2 := Lib.hid hst
          clear hst
          go_wp2
          have hj := HI.out
          first
            | exact ⟨⟨i0 + 1, by omega, by go_num, H2.out⟩, by simp [intOf]; omega⟩
            | (go_round
               case rel => exact ⟨i0 + 1, by omega, by go_num, H2.out⟩
               case measure => simp [intOf]; omega)
    · obtain rfl : i0 = n := by omega
      have HST := Lib.hid hst
      clear hst
      go_wp2_with fail
      refine (lists_same wq _ _ i0 (fun _ => i0) M (HV3.out.stay HST.out) (HX6.out.stay HST.out)).mono ?_
      rintro e w7 ⟨rfl, s7⟩
      have S7 := Lib.hid s7
      clear s7
      go_wp2_with fail
      refine (sure_any w7).mono ?_
      rintro e w8 ⟨rfl, s8⟩
      have S8 := Lib.hid s8
      clear s8
      go_wp2
      try go_ret
      exact ⟨rfl, (((S1.out.trans S2.out).trans S3.out).trans ((S4.out.trans S5.out).trans (S6.out.trans HST.out))).trans (S7.out.trans S8.out)⟩

theorem matrix_walk (w : World) (a0 : Option Addr) (n c0 : Nat) (L : Nat → Nat) (M : Nat → Nat → UInt8) (hx : SM (fun _ => False) w (.slice a0 n c0) n L M) (hL : ∀ i, i < n → L i ≤ 140737488355328) (hg : ErrCell w) :
    Calls Tryd.prog 5 #[.slice a0 n c0] w fun e w' => e = .returned (.bool true) ∧ Stay (fun _ => False) w w' := by
  by_cases hb : longB n L = true
  · exact matrix_long w _ n _ L M hx hL hb
  · have hb : longB n L = false := by simpa using hb
    by_cases hs : sqB n L = true
    · cases hr : runR n (augR n M) n with
      | none =>
        refine matrix_err w _ n _ L M 14 hg hx hL hb (fun W v hv => ?_) (fun W v hv => ?_)
        · refine (invert_good W v n L M hv hs).mono ?_
          rintro e w1 ⟨s1, ⟨_, rfl⟩ | ⟨R1, v1, hR1, _⟩⟩
          · exact ⟨rfl, s1⟩
          · rw [hr] at hR1; cases hR1
        · refine (rinvert_good W v n L M hv hs).mono ?_
          rintro e w1 ⟨s1, ⟨_, rfl⟩ | ⟨R1, v1, hR1, _⟩⟩
          · exact ⟨rfl, s1⟩
          · rw [hr] at hR1; cases hR1
      | some R => exact matrix_good w _ n _ L M R hg hx hL hb hs hr
    · have hs : sqB n L = false := by simpa using hs
      exact matrix_err w _ n _ L M 1 hg hx hL hb (fun W v hv => invert_bad W v n L M hv hs) (fun W v hv => rinvert_bad W v n L M hv hs)
end Go.Proofs.YtaldpfamgfchoaaDoor.Rs
