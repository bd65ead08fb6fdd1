/-
  rs, the document's: Invert.
-/
import Derived.Test.YtaldpfamgfchoaaDoorRsW
namespace Go.Proofs.YtaldpfamgfchoaaDoor.Rs
open Go.RowKit Gf
set_option maxRecDepth 100000

theorem rinvert_bad (w : World) (x : Value) (n : Nat) (L : Nat → Nat) (M : Nat → Nat → UInt8) (hx : SM (fun _ => False) w x n L M) (hb : sqB n L = false) :
    Calls Tryd.prog 27 #[x] w fun e w' => e = .returned (.tuple #[.slice none 0 0, .int .i64 1]) ∧ Stay (fun _ => False) w w' := by
  have HX := Lib.hid hx
  have HB := Lib.hid hb
  clear hx hb
  go_enter Tryd.func27, Tryd.ntmps27
  go_wp2_with fail
  refine (rsquare_any w x n L M HX.out).mono ?_
  rintro e w2 ⟨rfl, s2⟩
  rw [HB.out]
  have S2 := Lib.hid s2
  clear s2
  go_wp2
  go_ret2
  exact ⟨rfl, S2.out⟩

theorem firstP_next {p : Nat → Bool} : ∀ {m i : Nat}, firstP p i m = none → firstP p i (m + 1) = if p (i + m) then some (i + m) else none
  | 0, i, _ => rfl
  | m + 1, i, h => by
    unfold firstP at h
    by_cases e : p i = true
    · rw [if_pos e] at h; cases h
    · rw [if_neg e] at h
      show (if p i then some i else firstP p (i + 1) (m + 1)) = _
      rw [if_neg e, firstP_next h, show i + 1 + m = i + (m + 1) by omega]
theorem firstP_keep {p : Nat → Bool} : ∀ {m i k : Nat}, firstP p i m = some k → firstP p i (m + 1) = some k
  | m + 1, i, k, h => by
    unfold firstP at h
    show (if p i then some i else firstP p (i + 1) (m + 1)) = _
    by_cases e : p i = true
    · rw [if_pos e] at h ⊢; exact h
    · rw [if_neg e] at h ⊢; exact firstP_keep h
/-- A place, or -1. -/
def atI : Option Nat → Int
  | none => -1
  | some p => (p : Int)

set_option maxHeartbeats 16000000 in
theorem rinvert_good (w : World) (x : Value) (n : Nat) (L : Nat → Nat) (M : Nat → Nat → UInt8) (hx : SM (fun _ => False) w x n L M) (hb : sqB n L = true) :
    Calls Tryd.prog 27 #[x] w fun e w' => Stay (fun _ => False) w w' ∧
      ((runR n (augR n M) n = none ∧ e = .returned (.tuple #[.slice none 0 0, .int .i64 14])) ∨
       (∃ R v, runR n (augR n M) n = some R ∧ e = .returned (.tuple #[v, .int .i64 0]) ∧ SM (fun i => i < w.heap.size) w' v n (fun _ => n) (backR n R))) := by
  obtain ⟨a0, c, rfl, _⟩ := hx.form
  obtain ⟨h0, h1, h2⟩ := sqB_true.1 hb
  obtain ⟨W, hW⟩ : ∃ W, W = n + n := ⟨_, rfl⟩
  have q1 : (n : Int) ≤ 32 := by omega
  have q2 : 0 < (n : Int) := by omega
  have q3 : (W : Int) ≤ 64 := by omega
  have e1 : 2 * (n : Int) = (W : Int) := by omega
  have e2 : IntKind.i64.wrap (W : Int) = (W : Int) := by rw [IntKind.wrap_i64]; omega
  obtain ⟨i0, hi, hz0, hz1, hz2⟩ := info_parts info5
  have HI := Lib.hid hi
  have HZ0 := Lib.hid hz0
  have HZ1 := Lib.hid hz1
  have HZ2 := Lib.hid hz2
  have HX := Lib.hid (hx.congr (L' := fun _ => n) (M' := M) h2 (fun _ _ _ _ => rfl))
  have HX0 := Lib.hid hx
  have HB := Lib.hid hb
  have H0 := Lib.hid h0
  have H1 := Lib.hid h1
  have HW := Lib.hid hW
  clear hx hb h0 h1 h2 hW hi hz0 hz1 hz2
  go_enter Tryd.func27, Tryd.ntmps27
  go_wp2_with fail
  refine (rsquare_any w _ n L M HX0.out).mono ?_
  rintro e wq ⟨rfl, sq⟩
  rw [HB.out]
  have SQ := Lib.hid sq
  clear sq
  go_wp2
  go_loopw [5, 6] (fun v i wr => ∃ t : Nat, t ≤ n ∧ i = .int .i64 (t : Int) ∧ AL (fun i => i < w.heap.size) w.heap.size wr v t (fun _ => W) (augR n M) ∧ Stay (fun _ => False) w wr) (fun _ i _ => n - (intOf i).toNat)
  case atStart => exact ⟨0, by omega, rfl, AL.nil _ _ _ _ _, SQ.out⟩
  case round =>
    obtain ⟨w0, hw0⟩ : ∃ x, x = wr := ⟨_, rfl⟩
    rw [← hw0] at hrel ⊢
    clear hw0 wr
    obtain ⟨t, ht, rfl, hal, hst⟩ := hrel
    by_cases hlt : t < n
    · have q4 : (t : Int) < (n : Int) := by omega
      obtain ⟨b, o, ak, ck, rfl, cR, sR, _⟩ := HX.out.row hlt
      have k1 := (cR.stay hst).now
      have HS := Lib.hid ((sR.stay hst).now)
      have HAL := Lib.hid hal
      have HLO := Lib.hid hal.lt
      have HST := Lib.hid hst
      have HT := Lib.hid hlt
      clear hal hst hlt cR sR
      go_wp2_with (first
        | (at_builtin
           refine wpList_append_slc rfl (.tmp 34) (.tmp 38) 38 rfl w0.heap.size i0 Tryd.underlying38 HI.out HZ0.out HZ1.out HZ2.out (.slice none 0 0) (.slice ak n ck) [] (lf n (M t)) rfl rfl (Owns.nil _ _) HS.out (by rw [length_lf]; have := H1.out; simp; omega) (Nat.le_refl _) ?_
           intro v2 w2 o2 g2 _
           have S2 := Lib.hid (show Stay (fun _ => False) w0 w2 from Stay.grown g2 (fun k e => by cases e))
           have O2 := Lib.hid (show Owns w0.heap.size w2 v2 (lf (n + 0) (augR n M t)) by
             have e : ([] : List UInt8) ++ lf n (M t) = lf (n + 0) (augR n M t) := by
               rw [List.nil_append, Nat.add_zero]
               exact lf_congr (fun i hi => by unfold augR; rw [if_pos hi])
             rw [← e]
             exact o2)
           clear o2 g2))
      clear k1
      go_loopw [7, 8] (fun v i wr => ∃ s : Nat, s ≤ n ∧ i = .int .i64 (s : Int) ∧ Owns w0.heap.size wr v (lf (n + s) (augR n M t)) ∧ Stay (fun _ => False) w0 wr) (fun _ i _ => n - (intOf i).toNat)
      case atStart => exact ⟨0, by omega, rfl, O2.out, S2.out⟩
      case round =>
        obtain ⟨s, hs, rfl, how, hst⟩ := hrel
        by_cases hlt : s < n
        · have q5 : (s : Int) < (n : Int) := by omega
          have HOW := Lib.hid how
          have HOL := Lib.hid how.lt
          have HS2 := Lib.hid hst
          have HSL := Lib.hid hlt
          clear how hst hlt
          by_cases hts : t = s
          · have q6 : ((t : Int) == (s : Int)) = true := by rw [hts]; simp
            have HTS := Lib.hid hts
            clear hts
            go_wp2_with (first
              | (at_builtin
                 refine append_1 (w := wr) rfl (.tmp 48) (.tmp 50) rfl rfl rfl HOW.out (by
                   unfold augR
                   rw [if_neg (by omega), if_pos (by have := HTS.out; omega)]
                   rfl) HS2.out.size (by have := HSL.out; have := H1.out; omega) ?_
                 intro v3 w3 h3 s3 o3
                 have H3 := Lib.hid h3
                 have S3 := Lib.hid (stay_grow HS2.out s3 (fun i e => (HOL.out i e).1))
                 clear h3 s3 o3))
            have hs := HSL.out
            first
              | exact ⟨⟨s + 1, by omega, by go_num, H3.out, S3.out⟩, by simp [intOf]; omega⟩
              | (go_round
                 case rel => exact ⟨s + 1, by omega, by go_num, H3.out, S3.out⟩
                 case measure => simp [intOf]; omega)
          · have q6 : ((t : Int) == (s : Int)) = false := by simp; omega
            have HTS := Lib.hid hts
            clear hts
            go_wp2_with (first
              | (at_builtin
                 refine append_1 (w := wr) rfl (.tmp 48) (.tmp 50) rfl rfl rfl HOW.out (by
                   unfold augR
                   rw [if_neg (by omega), if_neg (by have := HTS.out; omega)]
                   rfl) HS2.out.size (by have := HSL.out; have := H1.out; omega) ?_
                 intro v3 w3 h3 s3 o3
                 have H3 := Lib.hid h3
                 have S3 := Lib.hid (stay_grow HS2.out s3 (fun i e => (HOL.out i e).1))
                 clear h3 s3 o3))
            have hs := HSL.out
            first
              | exact ⟨⟨s + 1, by omega, by go_num, H3.out, S3.out⟩, by simp [intOf]; omega⟩
              | (go_round
                 case rel => exact ⟨s + 1, by omega, by go_num, H3.out, S3.out⟩
                 case measure => simp [intOf]; omega)
        · obtain rfl : s = n := by omega
          rw [← HW.out] at how
          obtain ⟨a3, c3, rfl⟩ := how.form
          rw [length_lf] at how ⊢
          have HOW := Lib.hid how
          have HS2 := Lib.hid (HST.out.trans hst)
          have HAL2 := Lib.hid (HAL.out.stay0 hst)
          have HSZ := Lib.hid (show w.heap.size ≤ w0.heap.size from HST.out.size)
          clear how hst
          go_wp2_with (first
            | (at_builtin
               refine append_l (w := wr) rfl (.tmp 52) (.tmp 54) rfl rfl rfl HAL2.out ⟨_, _, _, rfl⟩ (Owns.ss HOW.out (fun i e => by
                 rcases e with e | e
                 · have := HSZ.out; omega
                 · have := (HLO.out i e).2; omega)) (fun i e => by have := HS2.out.size; omega) HS2.out.size (by have := HT.out; have := H1.out; omega) ?_
               intro v4 w4 h4 s4 o4
               have H4 := Lib.hid h4
               have S4 := Lib.hid (stay_grow HS2.out s4 (fun i e => (HLO.out i e).1))
               clear h4 s4 o4))
          have ht := HT.out
          first
            | exact ⟨⟨t + 1, by omega, by go_num, H4.out, S4.out⟩, by simp [intOf]; omega⟩
            | (go_round
               case rel => exact ⟨t + 1, by omega, by go_num, H4.out, S4.out⟩
               case measure => simp [intOf]; omega)
    · obtain rfl : t = n := by omega
      obtain ⟨ga, ca, rfl, _⟩ := hal.at H0.out
      have HAL := Lib.hid hal
      have HGA := Lib.hid (hal.lt ga rfl)
      have HST := Lib.hid (hst.mono (Y := fun k => w.heap.size ≤ k) (fun _ x => x.elim))
      clear hal hst
      go_wp2
      go_loopw [10] (fun i wr => ∃ (j : Nat) (R : Nat → Nat → UInt8), j ≤ t ∧ i = .int .i64 (j : Int) ∧ runR t (augR t M) j = some R ∧ AL (fun i => i < w.heap.size) w.heap.size wr (.slice (some ⟨ga, 0, none⟩) t ca) t (fun _ => W) R ∧ Stay (fun k => w.heap.size ≤ k) w wr) (fun i _ => t - (intOf i).toNat)
      case atStart => exact ⟨0, _, by omega, rfl, rfl, HAL.out, HST.out⟩
      case round =>
        obtain ⟨w3, hw3⟩ : ∃ x, x = wr := ⟨_, rfl⟩
        rw [← hw3] at hrel ⊢
        clear hw3 wr
        obtain ⟨j, R, hj, rfl, hrun, hal, hst⟩ := hrel
        by_cases hlt : j < t
        · have q4 : (j : Int) < (t : Int) := by omega
          have HA3 := Lib.hid hal
          have HS3 := Lib.hid hst
          have HJ := Lib.hid hlt
          have HRUN := Lib.hid hrun
          have q5 : (j : Int) < (W : Int) := by have := HW.out; omega
          clear hal hst hlt hrun HAL HST
          go_wp2
          go_loopw [11, 12] (fun v i wr => ∃ s : Nat, j ≤ s ∧ s ≤ t ∧ i = .int .i64 (s : Int) ∧ v = .int .i64 (atI (firstP (fun i => R i j != 0) j (s - j))) ∧ Stay (fun _ => False) w3 wr) (fun _ i _ => t - (intOf i).toNat)
          case atStart => exact ⟨j, Nat.le_refl _, hj, rfl, by rw [Nat.sub_self]; rfl, Stay.refl _ _⟩
          case round =>
            obtain ⟨s, hs1, hs, rfl, rfl, hst⟩ := hrel
            by_cases hlt : s < t
            · have q6 : (s : Int) < (t : Int) := by omega
              obtain ⟨_, _, ak, ck, e0, cR, sR, _⟩ := (HA3.out.stay0 hst).read.row hlt
              cases e0
              rw [Nat.zero_add] at cR
              have k1 := cR.now
              obtain ⟨ad, rfl, k2⟩ := Slc.at sR.now (show j < W by have := HW.out; have := HJ.out; omega)
              have HS4 := Lib.hid hst
              have HSL := Lib.hid hlt
              clear hst hlt cR sR
              have hsub : s + 1 - j = (s - j) + 1 := by omega
              have hadd : j + (s - j) = s := by omega
              cases hfp : firstP (fun i => R i j != 0) j (s - j) with
              | none =>
                have hnx := firstP_next hfp
                rw [hadd] at hnx
                by_cases hz : R s j = 0
                · have q7 : (((R s j).toNat : Int) != 0) = false := by rw [hz]; rfl
                  have HNX := Lib.hid (show firstP (fun i => R i j != 0) j (s + 1 - j) = none by rw [hsub, hnx]; simp [hz])
                  rw [show atI none = -1 from rfl]
                  clear hfp hnx hz
                  go_wp2
                  have hsl := HSL.out
                  first
                    | exact ⟨⟨s + 1, by omega, by omega, by go_num, by rw [HNX.out]; rfl, HS4.out⟩, by simp [intOf]; omega⟩
                    | (go_round
                       case rel => exact ⟨s + 1, by omega, by omega, by go_num, by rw [HNX.out]; rfl, HS4.out⟩
                       case measure => simp [intOf]; omega)
                · have q7 : (((R s j).toNat : Int) != 0) = true := by have := u8_ne hz; simp; omega
                  have HNX := Lib.hid (show firstP (fun i => R i j != 0) j (s + 1 - j) = some s by rw [hsub, hnx]; simp [hz])
                  rw [show atI none = -1 from rfl]
                  clear hfp hnx hz
                  go_wp2
                  have hsl := HSL.out
                  first
                    | exact ⟨⟨s + 1, by omega, by omega, by go_num, by rw [HNX.out]; rfl, HS4.out⟩, by simp [intOf]; omega⟩
                    | (go_round
                       case rel => exact ⟨s + 1, by omega, by omega, by go_num, by rw [HNX.out]; rfl, HS4.out⟩
                       case measure => simp [intOf]; omega)
              | some p =>
                have HNX := Lib.hid (show firstP (fun i => R i j != 0) j (s + 1 - j) = some p by rw [hsub]; exact firstP_keep hfp)
                rw [show atI (some p) = (p : Int) from rfl]
                have q8 : ¬ (p : Int) < 0 := by omega
                clear hfp
                by_cases hz : R s j = 0
                · have q7 : (((R s j).toNat : Int) != 0) = false := by rw [hz]; rfl
                  clear hz
                  go_wp2
                  have hsl := HSL.out
                  first
                    | exact ⟨⟨s + 1, by omega, by omega, by go_num, by rw [HNX.out]; rfl, HS4.out⟩, by simp [intOf]; omega⟩
                    | (go_round
                       case rel => exact ⟨s + 1, by omega, by omega, by go_num, by rw [HNX.out]; rfl, HS4.out⟩
                       case measure => simp [intOf]; omega)
                · have q7 : (((R s j).toNat : Int) != 0) = true := by have := u8_ne hz; simp; omega
                  clear hz
                  go_wp2
                  have hsl := HSL.out
                  first
                    | exact ⟨⟨s + 1, by omega, by omega, by go_num, by rw [HNX.out]; rfl, HS4.out⟩, by simp [intOf]; omega⟩
                    | (go_round
                       case rel => exact ⟨s + 1, by omega, by omega, by go_num, by rw [HNX.out]; rfl, HS4.out⟩
                       case measure => simp [intOf]; omega)
            · obtain rfl : s = t := by omega
              have HA4 := Lib.hid (HA3.out.stay0 hst)
              have HS4 := Lib.hid (HS3.out.trans (hst.mono (Y := fun k => w.heap.size ≤ k) (fun _ x => x.elim)))
              clear hst
              cases hfp : firstP (fun i => R i j != 0) j (s - j) with
              | none =>
                have HE := Lib.hid (settle_none hfp)
                rw [show atI none = -1 from rfl]
                clear hfp
                go_wp2
                go_ret2
                exact ⟨stay_seal HS4.out (fun _ h => h), .inl ⟨run_none (t := j + 1) (by rw [run_succ HRUN.out]; exact HE.out) (by have := HJ.out; omega), rfl⟩⟩
              | some p =>
                have HE := Lib.hid (settle_some hfp)
                obtain ⟨p1, p2, p3, _⟩ := firstP_some hfp
                rw [show atI (some p) = (p : Int) from rfl]
                have p4 : p < s := by omega
                have q8 : ¬ (p : Int) < 0 := by omega
                have q9 : (p : Int) < (s : Int) := by omega
                have hnz : R p j ≠ 0 := by simpa using p3
                have HNZ := Lib.hid hnz
                have HP := Lib.hid p4
                clear hfp p1 p2 p3
                obtain ⟨ap, cp, kp, sP, _⟩ := HA4.out.row p4
                obtain ⟨aj, cj, kj, sJ, _⟩ := HA4.out.row HJ.out
                have SP := Lib.hid sP
                have SJ := Lib.hid sJ
                obtain ⟨w4, hw4⟩ : ∃ w4, w4 = wr := ⟨_, rfl⟩
                rw [← hw4] at HA4 HS4 kp kj SP SJ ⊢
                clear hw4 sP sJ hnz p4
                obtain ⟨S, hS⟩ : ∃ S, S = swapR R j p := ⟨_, rfl⟩
                have HSD := Lib.hid hS
                have HSJ := Lib.hid (show S j = R p by rw [hS]; unfold swapR; exact if_pos rfl)
                clear hS
                obtain ⟨ad, rfl, kb⟩ := Slc.at SP.out.now (show j < W by have := HW.out; have := HJ.out; omega)
                go_wp2_with (first
                  | (with_reducible refine store_al rfl (.tmp 92) (.tmp 91) rfl p (L' := fun _ => W) (M' := fun r => if r = p then R j else R r) rfl rfl HA4.out HP.out (by
                       simp only [if_true]
                       exact SJ.out.mono (fun i e => by
                         rcases e with e | e
                         · exact .inl e
                         · exact .inr (own_eq e))) (fun _ _ _ => rfl) (fun r _ e => if_neg e) ?_
                     intro w5 h5 s5
                     have A5 := Lib.hid h5
                     have S5 := Lib.hid (HS4.out.trans (s5.mono (fun i (e : i = ga) => by have := HGA.out.1; omega)))
                     have SP5 := Lib.hid (SP.out.stay (s5.mono (fun i e => .inr e)))
                     obtain ⟨_, e5, kb5⟩ := Slc.at SP5.out.now (show j < W by have := HW.out; have := HJ.out; omega)
                     cases e5
                     clear h5 s5 kp kj kb))
                refine (rinv_any w5 (R p j).toNat (u8_ne HNZ.out) (u8_lt _)).mono ?_
                rintro e w6 ⟨rfl, rfl⟩
                rw [show ((invN (R p j).toNat : Nat) : Int) = ((invB (R p j)).toNat : Int) by rw [invB_nat]]
                obtain ⟨fac, hfac⟩ : ∃ fac, fac = invB (R p j) := ⟨_, rfl⟩
                rw [← hfac]
                have HFC := Lib.hid (show ∀ k, mulB (R p k) fac = ownR S j k from fun k => by unfold ownR; rw [HSJ.out, hfac, mulB_comm])
                clear hfac kb5
                have HSZ5 := Lib.hid (show w.heap.size ≤ w6.heap.size from S5.out.size)
                have HGA5 := Lib.hid (show ga < w6.heap.size from (A5.out.lt ga rfl).2)
                go_wp2
                go_loopw [16, 17] (fun v i wr => ∃ k : Nat, k ≤ W ∧ i = .int .i64 (k : Int) ∧ Owns w6.heap.size wr v (lf k (ownR S j)) ∧ Stay (fun _ => False) w6 wr) (fun _ i _ => W - (intOf i).toNat)
                case atStart => exact ⟨0, by omega, rfl, Owns.nil _ _, Stay.refl _ _⟩
                case round =>
                  obtain ⟨k, hk, rfl, how, hst⟩ := hrel
                  by_cases hlt : k < W
                  · have r1 : (k : Int) < (W : Int) := by omega
                    obtain ⟨_, e5, kb⟩ := Slc.at (SP5.out.stay (hst.mono (fun _ x => x.elim))).now hlt
                    cases e5
                    have HOW := Lib.hid how
                    have HOL := Lib.hid how.lt
                    have HST := Lib.hid hst
                    have HK := Lib.hid hlt
                    clear how hst hlt
                    go_wp2_with fail
                    refine (rmul_any wr (R p k).toNat fac.toNat (u8_lt _) (u8_lt _)).mono ?_
                    rintro e w7 ⟨rfl, rfl⟩
                    go_wp2_with (first
                      | (at_builtin
                         refine append_1 (w := w7) rfl (.tmp 107) (.tmp 114) rfl rfl rfl HOW.out (by rw [← mulB_nat, HFC.out]) HST.out.size (by have := HK.out; omega) ?_
                         intro v8 w8 h8 s8 o8
                         have H8 := Lib.hid h8
                         have S8 := Lib.hid (stay_grow HST.out s8 (fun i e => (HOL.out i e).1))
                         clear h8 s8 o8))
                    have hk := HK.out
                    first
                      | exact ⟨⟨k + 1, by omega, by go_num, H8.out, S8.out⟩, by simp [intOf]; omega⟩
                      | (go_round
                         case rel => exact ⟨k + 1, by omega, by go_num, H8.out, S8.out⟩
                         case measure => simp [intOf]; omega)
                  · obtain rfl : k = W := by omega
                    obtain ⟨au, cu, rfl⟩ := how.form
                    rw [length_lf] at how ⊢
                    have HU := Lib.hid (Owns.ss (X := fun i => i < w.heap.size ∨ i = ga) how (fun i e => by
                      rcases e with e | e
                      · have := HSZ5.out; omega
                      · have := HGA5.out; omega))
                    have A6 := Lib.hid (A5.out.stay0 hst)
                    have S6 := Lib.hid (S5.out.trans (hst.mono (Y := fun k => w.heap.size ≤ k) (fun _ x => x.elim)))
                    clear how hst SP5
                    go_wp2_with (first
                      | (with_reducible refine store_al rfl (.tmp 119) (.tmp 118) rfl j (L' := fun _ => k) (M' := fun r => if r = j then ownR S j else if r < 0 then stepR S j r else S r) rfl rfl A6.out HJ.out (by
                           simp only [if_true]
                           exact HU.out.mono (fun i e => by
                             rcases e with e | e
                             · exact .inl e
                             · exact .inr (own_eq e))) (fun _ _ _ => rfl) (fun r _ e => by
                           rw [if_neg e, if_neg (by omega), HSD.out]
                           unfold swapR
                           rw [if_neg e]) ?_
                         intro w9 h9 s9
                         have A9 := Lib.hid h9
                         have S9 := Lib.hid (S6.out.trans (s9.mono (fun i (e : i = ga) => by have := HGA.out.1; omega)))
                         have U9 := Lib.hid (HU.out.stay (s9.mono (fun i e => .inr e)))
                         clear h9 s9))
                    go_loopw [18] (fun i wr => ∃ u : Nat, u ≤ s ∧ i = .int .i64 (u : Int) ∧ AL (fun i => i < w.heap.size) w.heap.size wr (.slice (some ⟨ga, 0, none⟩) s ca) s (fun _ => k) (fun r => if r = j then ownR S j else if r < u then stepR S j r else S r) ∧
                      SSlc (fun i => i < w.heap.size ∨ i = ga) wr (.slice au k cu) (lf k (ownR S j)) ∧ Stay (fun k => w.heap.size ≤ k) w wr) (fun i _ => s - (intOf i).toNat)
                    case atStart => exact ⟨0, by omega, rfl, A9.out, U9.out, S9.out⟩
                    case round =>
                      obtain ⟨wa, hwa⟩ : ∃ wa, wa = wr := ⟨_, rfl⟩
                      rw [← hwa] at hrel ⊢
                      clear hwa wr
                      obtain ⟨u, hu, rfl, hal, hun, hst⟩ := hrel
                      by_cases hlt : u < s
                      · have r2 : (u : Int) < (s : Int) := by omega
                        have HAA := Lib.hid hal
                        have HUN := Lib.hid hun
                        have HST := Lib.hid hst
                        have HU2 := Lib.hid hlt
                        clear hal hun hst hlt
                        by_cases huj : u = j
                        · have r3 : ((u : Int) == (j : Int)) = true := by rw [huj]; simp
                          have HUJ := Lib.hid huj
                          clear huj
                          go_wp2
                          have hu := HU2.out
                          first
                            | exact ⟨⟨u + 1, by omega, by go_num, HAA.out.congr (fun _ _ => rfl) (fun r _ i _ => by
                                by_cases e : r = j
                                · simp only [e, if_true]
                                · simp only [e, if_false]
                                  by_cases e2 : r < u
                                  · rw [if_pos e2, if_pos (by omega)]
                                  · rw [if_neg e2, if_neg (by have := HUJ.out; omega)]), HUN.out, HST.out⟩, by simp [intOf]; omega⟩
                            | (go_round
                               case rel => exact ⟨u + 1, by omega, by go_num, HAA.out.congr (fun _ _ => rfl) (fun r _ i _ => by
                                by_cases e : r = j
                                · simp only [e, if_true]
                                · simp only [e, if_false]
                                  by_cases e2 : r < u
                                  · rw [if_pos e2, if_pos (by omega)]
                                  · rw [if_neg e2, if_neg (by have := HUJ.out; omega)]), HUN.out, HST.out⟩
                               case measure => simp [intOf]; omega)
                        · have r3 : ((u : Int) == (j : Int)) = false := by simp; omega
                          have HUJ := Lib.hid huj
                          obtain ⟨ar, cr, kr, sR, _⟩ := HAA.out.row HU2.out
                          simp only [huj, if_false] at sR
                          rw [if_neg (Nat.lt_irrefl u)] at sR
                          obtain ⟨adr, rfl, kb⟩ := Slc.at sR.now (show j < k by have := HW.out; have := HJ.out; omega)
                          have SR := Lib.hid sR
                          have HKR := Lib.hid kr
                          clear sR huj
                          have HSZA := Lib.hid (show w.heap.size ≤ wa.heap.size from HST.out.size)
                          have HGAA := Lib.hid (show ga < wa.heap.size from (HAA.out.lt ga rfl).2)
                          go_wp2
                          clear kb kr
                          go_loopw [20, 21] (fun v i wr => ∃ b : Nat, b ≤ k ∧ i = .int .i64 (b : Int) ∧ Owns wa.heap.size wr v (lf b (stepR S j u)) ∧ Stay (fun _ => False) wa wr) (fun _ i _ => k - (intOf i).toNat)
                          case atStart => exact ⟨0, by omega, rfl, Owns.nil _ _, Stay.refl _ _⟩
                          case round =>
                            obtain ⟨b, hb, rfl, how, hst⟩ := hrel
                            by_cases hlt : b < k
                            · have r4 : (b : Int) < (k : Int) := by omega
                              obtain ⟨_, e6, c1⟩ := Slc.at (SR.out.stay (hst.mono (fun _ x => x.elim))).now hlt
                              cases e6
                              obtain ⟨adu, e7, c2⟩ := Slc.at (HUN.out.stay (hst.mono (fun _ x => x.elim))).now hlt
                              subst e7
                              have c3 := hst.cell HKR.out (fun x => x)
                              have HOW := Lib.hid how
                              have HOL := Lib.hid how.lt
                              have HSTW := Lib.hid hst
                              have HB := Lib.hid hlt
                              clear how hst hlt
                              go_wp2
                              go_region_held3 (fun W0 => W0.cell? (adr.add b) = some (.int .u8 ((S u b).toNat : Int)) ∧ W0.cell? (adu.add b) = some (.int .u8 ((ownR S j b).toNat : Int)) ∧ W0.cell? ⟨ga, u, none⟩ = some (.slice (some adr) k cr))
                                (first | go_keep | exact ⟨(Stay.alloc (X := fun _ => False) _ _).cell c1 (fun x => x), (Stay.alloc (X := fun _ => False) _ _).cell c2 (fun x => x), (Stay.alloc (X := fun _ => False) _ _).cell c3 (fun x => x)⟩ | exact ⟨d1, d2, d3⟩)
                                (first
                                  | (go_at_call 28
                                     refine (rmul_any _ (S u j).toNat (ownR S j b).toNat (u8_lt _) (u8_lt _)).mono ?_
                                     rintro e w7 ⟨rfl, rfl⟩)
                                  | (refine step_append_1 (w := World.drew wr) rfl (.tmp 141) (.tmp 156) rfl (base := wa.heap.size) rfl rfl (HOW.out.stay0 Stay.drew) (by
                                       rw [xor_byte (u8_lt _) (mulN_lt _ _), ← mulB_nat, cast_xor]
                                       unfold stepR
                                       rw [if_neg HUJ.out]) (show wa.heap.size ≤ wr.heap.size from HSTW.out.size) (by have := HB.out; omega) ?_
                                     intro v8 w8 h8 s8 o8
                                     have H8 := Lib.hid h8
                                     have st8 := stay_grow (HSTW.out.trans Stay.drew) s8 (fun i e => (HOL.out i e).1)
                                     have S8 := Lib.hid st8
                                     obtain ⟨_, e8, d1⟩ := Slc.at (SR.out.stay (st8.mono (fun _ x => x.elim))).now HB.out
                                     cases e8
                                     obtain ⟨_, e9, d2⟩ := Slc.at (HUN.out.stay (st8.mono (fun _ x => x.elim))).now HB.out
                                     cases e9
                                     have d3 := st8.cell HKR.out (fun x => x)
                                     clear h8 s8 o8 st8))
                              clear c1 c2 c3 d1 d2 d3
                              go_wp2
                              have hb := HB.out
                              first
                                | exact ⟨⟨b + 1, by omega, by go_num, H8.out, S8.out⟩, by simp [intOf]; omega⟩
                                | (go_round
                                   case rel => exact ⟨b + 1, by omega, by go_num, H8.out, S8.out⟩
                                   case measure => simp [intOf]; omega)
                            · obtain rfl : b = k := by omega
                              obtain ⟨al, cl, rfl⟩ := how.form
                              rw [length_lf] at how ⊢
                              have HLS := Lib.hid (Owns.ss (X := fun i => i < w.heap.size ∨ i = ga) how (fun i e => by
                                rcases e with e | e
                                · have := HSZA.out; omega
                                · have := HGAA.out; omega))
                              have AB := Lib.hid (HAA.out.stay0 hst)
                              have UB := Lib.hid (HUN.out.stay (hst.mono (fun _ x => x.elim)))
                              have SB2 := Lib.hid (HST.out.trans (hst.mono (Y := fun k => w.heap.size ≤ k) (fun _ x => x.elim)))
                              clear how hst
                              go_wp2_with (first
                                | (with_reducible refine store_al rfl (.tmp 161) (.tmp 160) rfl u (L' := fun _ => b) (M' := fun r => if r = j then ownR S j else if r < u + 1 then stepR S j r else S r) rfl rfl AB.out HU2.out (by
                                     have h1 := HUJ.out
                                     simp only [h1, if_false]
                                     rw [if_pos (Nat.lt_succ_self u)]
                                     exact HLS.out.mono (fun i e => by
                                       rcases e with e | e
                                       · exact .inl e
                                       · exact .inr (own_eq e))) (fun _ _ _ => rfl) (fun r _ e => by
                                     by_cases e2 : r = j
                                     · rw [if_pos e2, if_pos e2]
                                     · rw [if_neg e2, if_neg e2]
                                       by_cases e3 : r < u
                                       · rw [if_pos e3, if_pos (by omega)]
                                       · rw [if_neg e3, if_neg (by omega)]) ?_
                                   intro w9 h9 s9
                                   have A10 := Lib.hid h9
                                   have S10 := Lib.hid (SB2.out.trans (s9.mono (fun i (e : i = ga) => by have := HGA.out.1; omega)))
                                   have U10 := Lib.hid (UB.out.stay (s9.mono (fun i e => .inr e)))
                                   clear h9 s9))
                              have hu := HU2.out
                              first
                                | exact ⟨⟨u + 1, by omega, by go_num, A10.out, U10.out, S10.out⟩, by simp [intOf]; omega⟩
                                | (go_round
                                   case rel => exact ⟨u + 1, by omega, by go_num, A10.out, U10.out, S10.out⟩
                                   case measure => simp [intOf]; omega)
                      · obtain rfl : u = s := by omega
                        have HAA := Lib.hid (hal.congr (L' := fun _ => k) (M' := stepR S j) (fun _ _ => rfl) (fun r hr i _ => by
                          by_cases e : r = j
                          · simp only [e, if_true]; unfold stepR; rw [if_pos rfl]
                          · simp only [e, if_false, hr, if_true]))
                        have HST := Lib.hid hst
                        clear hal hun hst
                        go_wp2
                        have hj := HJ.out
                        have hrr : runR u (augR u M) (j + 1) = some (stepR S j) := by rw [run_succ HRUN.out, HE.out, HSD.out]
                        first
                          | exact ⟨⟨j + 1, _, by omega, by go_num, hrr, HAA.out, HST.out⟩, by simp [intOf]; omega⟩
                          | (go_round
                             case rel => exact ⟨j + 1, _, by omega, by go_num, hrr, HAA.out, HST.out⟩
                             case measure => simp [intOf]; omega)
        · obtain rfl : j = t := by omega
          have HAA := Lib.hid hal
          have HST := Lib.hid hst
          have HRUN := Lib.hid hrun
          have q5 : (j : Int) ≤ (W : Int) := by have := HW.out; omega
          have hws : W - j = j := by have := HW.out; omega
          have hwn : ¬ W = j := by have := HW.out; have := H0.out; omega
          obtain ⟨wb, hwb⟩ : ∃ wb, wb = w3 := ⟨_, rfl⟩
          rw [← hwb] at hal hst HAA HST ⊢
          have HSZB := Lib.hid (show w.heap.size ≤ wb.heap.size from hst.size)
          clear hal hst hrun HAL hwb
          go_wp2
          go_loopw [22, 23] (fun v i wr => ∃ u : Nat, u ≤ j ∧ i = .int .i64 (u : Int) ∧ AL (fun i => i < w.heap.size) wb.heap.size wr v u (fun _ => j) (backR j R) ∧ Stay (fun _ => False) wb wr) (fun _ i _ => j - (intOf i).toNat)
          case atStart => exact ⟨0, by omega, rfl, AL.nil _ _ _ _ _, Stay.refl _ _⟩
          case round =>
            obtain ⟨u, hu, rfl, hal, hst⟩ := hrel
            by_cases hlt : u < j
            · have r2 : (u : Int) < (j : Int) := by omega
              obtain ⟨ar, cr, kr, sR, hcr, _⟩ := HAA.out.row hlt
              obtain ⟨adr, rfl, _⟩ := Slc.at sR.now (show 0 < W by have := HW.out; omega)
              have k1 := hst.cell kr (fun x => x)
              have hcn : ¬ cr = j := by omega
              have hsl : SSlc (fun i => i < w.heap.size ∨ i = ga) wb (.slice (some (adr.add j)) j (cr - j)) (lf j (backR j R u)) := fun u1 hu1 => by
                have h1 := Slc.cut (k := j) (a0 := some adr) (c := cr) (b := lf W (R u)) (by rw [length_lf]; exact sR u1 hu1) (by rw [length_lf]; omega)
                have h2 := h1.1
                rw [length_lf, if_neg hcn, hws] at h2
                have e : (lf W (R u)).drop j = lf j (backR j R u) := by
                  apply List.ext_getElem?
                  intro i
                  rw [List.getElem?_drop]
                  by_cases hi : i < j
                  · rw [lf_get _ hi, lf_get _ (by have := HW.out; omega)]; rfl
                  · rw [List.getElem?_eq_none (by rw [length_lf]; have := HW.out; omega), List.getElem?_eq_none (by rw [length_lf]; omega)]
                rw [e] at h2
                exact h2
              have HSL := Lib.hid hsl
              have HAL := Lib.hid hal
              have HLO := Lib.hid hal.lt
              have HSTB := Lib.hid hst
              have HU := Lib.hid hlt
              clear hsl hal hst hlt sR kr
              go_wp2_with (first
                | (at_builtin
                   refine append_l (w := wr) rfl (.tmp 167) (.tmp 174) rfl rfl rfl HAL.out ⟨_, _, _, rfl⟩ (HSL.out.push (HSTB.out.mono (fun _ x => x.elim)) (fun i hi e => by
                     rcases e with e | e
                     · exact .inl e
                     · have := (HLO.out i e).1; omega)) (fun i e => by have := HSZB.out; have := HSTB.out.size; omega) HSTB.out.size (by have := HU.out; omega) ?_
                   intro v4 w4 h4 s4 o4
                   have H4 := Lib.hid h4
                   have S4 := Lib.hid (stay_grow HSTB.out s4 (fun i e => (HLO.out i e).1))
                   clear h4 s4 o4))
              have hu := HU.out
              first
                | exact ⟨⟨u + 1, by omega, by go_num, H4.out, S4.out⟩, by simp [intOf]; omega⟩
                | (go_round
                   case rel => exact ⟨u + 1, by omega, by go_num, H4.out, S4.out⟩
                   case measure => simp [intOf]; omega)
            · obtain rfl : u = j := by omega
              have HAL := Lib.hid hal.read
              have HSTB := Lib.hid hst
              clear hal hst
              go_wp2
              go_ret2
              exact ⟨stay_seal (HST.out.trans (HSTB.out.mono (Y := fun k => w.heap.size ≤ k) (fun _ x => x.elim))) (fun _ h => h), .inr ⟨R, _, HRUN.out, rfl, HAL.out⟩⟩
end Go.Proofs.YtaldpfamgfchoaaDoor.Rs
