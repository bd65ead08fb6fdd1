/-
  merge's laws: MergeAll, walked.
-/
import Derived.Test.YtdfhjmodacjilaaDoorMgQ
import Derived.Test.YtdfhjmodacjilaaDoorErrG
namespace Go.Proofs.YtdfhjmodacjilaaDoor.Mg
open Go.RowKit Go.Maps Me
set_option maxRecDepth 100000
set_option linter.unusedVariables false

set_option maxHeartbeats 4000000 in
theorem mall_walk (w : World) (x : Value) (Ls : List (List En)) (d : Bool) (hx : ESs w x Ls) (hsz : ∀ L ∈ Ls, L.length ≤ 140737488355328) (hg : ErrCell w) :
    Calls Tryd.prog 3 #[x, .bool d] w fun e w' => e = .returned (.bool true) ∧ Stay (fun _ => False) w w' := by
  have HX := Lib.hid hx
  have HMANY := Lib.hid (many_any w x Ls hx hsz)
  have HERR := Lib.hid hg
  obtain ⟨a0, c, rfl⟩ := hx.form
  clear hx hsz hg
  go_enter Tryd.func3, Tryd.ntmps3
  go_wp2_with fail
  refine HMANY.out.mono ?_
  rintro e w1 ⟨rfl, hs1⟩
  have HS1 := Lib.hid hs1
  clear hs1 HMANY
  cases hm : manyB Ls with
  | true =>
    clear hm
    go_wp2_with fail
    refine (sure_any w1).mono ?_
    rintro e w2 ⟨rfl, hs2⟩
    have HS2 := Lib.hid (HS1.out.trans hs2)
    clear hs2
    go_wp2
    go_ret
    exact ⟨rfl, HS2.out⟩
  | false =>
    have hm2 : Ls.length ≤ 51 ∧ sumL Ls ≤ 400 := by
      unfold manyB at hm
      simp at hm
      omega
    have HLEN := Lib.hid hm2.1
    have HSUM := Lib.hid hm2.2
    clear hm hm2
    go_wp2_with fail
    refine (owns_any w1 _ Ls (HX.out.stay0 HS1.out) (by have := HLEN.out; omega) (sumL_all HSUM.out)).mono ?_
    rintro e w2 ⟨v2, rfl, ho2, hs2⟩
    have HO2 := Lib.hid ho2
    have HS2 := Lib.hid (HS1.out.trans hs2)
    clear ho2 hs2 HS1
    go_wp2_with fail
    refine (all_uni w2 v2 Ls d HO2.out.ess (by have := HLEN.out; omega) (by have := HSUM.out; omega)).mono ?_
    rintro e w3 ⟨v3, rfl, ho3, hs3⟩
    have HX3 := Lib.hid ho3
    have HS3 := Lib.hid (HS2.out.trans hs3)
    have HT3 := Lib.hid hs3
    clear hs3 HS2 ho3
    go_wp2_with fail
    refine (rall_uni w3 _ Ls d (HX.out.stay0 HS3.out) (by have := HLEN.out; omega) (by have := HSUM.out; omega)).mono ?_
    rintro e w4 ⟨v4, rfl, ho4, hs4⟩
    have HY4 := Lib.hid ho4
    have HS4 := Lib.hid (HS3.out.trans hs4)
    have HT4 := Lib.hid hs4
    clear hs4 HS3 ho4
    go_wp2_with fail
    refine (new_any w4 v2 Ls ((HO2.out.stay0 (HT3.out.trans HT4.out)).ess) (by have := HLEN.out; omega) (sumL_all HSUM.out)).mono ?_
    rintro e w5 ⟨hs5, hc⟩
    have HS5 := Lib.hid (HS4.out.trans hs5)
    have HT5 := Lib.hid (HT4.out.trans hs5)
    have HT6 := Lib.hid hs5
    have HZW4 := Lib.hid HS4.out.size
    have HZW5 := Lib.hid (fun (W : World) (h : Stay (fun _ => False) w5 W) => h.size)
    clear hs5 HS4
    rcases hc with ⟨r, hall, rfl, hrd⟩ | ⟨hna, rfl⟩
    · have HALL := Lib.hid hall
      have HRD := Lib.hid (hrd.mono (A' := fun k => w4.heap.size ≤ k ∧ k < w5.heap.size) (fun k hk h => ⟨h, hk⟩))
      clear hall hrd
      have HE0 := Lib.hid (show resE Ls = 0 from by unfold resE; rw [if_pos HALL.out])
      have HM0 := Lib.hid (show resM Ls = (allN Ls) from by unfold resM; rw [if_pos HALL.out])
      go_wp2_with fail
      refine (rall_uni w5 _ Ls false (HX.out.stay0 HS5.out) (by have := HLEN.out; omega) (by have := HSUM.out; omega)).mono ?_
      rintro e w6 ⟨v6, rfl, ho6, hs6⟩
      have HS6 := Lib.hid (HS5.out.trans hs6)
      have HW56 := Lib.hid hs6
      have HX6 := Lib.hid (HX3.out.stay0 (HT5.out.trans hs6))
      have HY6 := Lib.hid (HY4.out.stay0 (HT6.out.trans hs6))
      have HMI := Lib.hid (HO2.out.stay0 ((HT3.out.trans HT5.out).trans hs6))
      have HR6 := Lib.hid (HRD.out.stay0 hs6)
      have HO6 := Lib.hid (show EnO w5.heap.size w6 v6 (resM Ls) from ho6)
      clear ho6 hs6
      go_wp2_with fail
      refine (entries_eq w6 v3 v4 _ _ HX6.out.ens HY6.out.ens).mono ?_
      rintro e w7 ⟨rfl, hs7⟩
      rw [show decide (keepL d (resM Ls) = keepL d (resM Ls)) = true from decide_eq_true rfl]
      have HS7 := Lib.hid (HS6.out.trans hs7)
      have HT7 := Lib.hid hs7
      clear hs7 HX6 HY6
      go_wp2_with fail
      refine (num_any (resE Ls) w7 (ErrCell.stay0 HERR.out HS7.out) _ rfl).mono ?_
      rintro e w8 ⟨rfl, hs8⟩
      have HS8 := Lib.hid (HS7.out.trans hs8)
      have HT8 := Lib.hid (HT7.out.trans hs8)
      clear hs8 HS7 HT7
      go_wp2_with fail
      refine (num_any 0 w8 (ErrCell.stay0 HERR.out HS8.out) _ rfl).mono ?_
      rintro e w9 ⟨rfl, hs9⟩
      have HS9 := Lib.hid (HS8.out.trans hs9)
      have HT9 := Lib.hid (HT8.out.trans hs9)
      clear hs9 HS8 HT8
      rw [HE0.out]
      have HT6' := Lib.hid (HW56.out.trans HT9.out)
      have HMI9 := Lib.hid (HMI.out.stay0 HT9.out)
      have HO9 := Lib.hid (HO6.out.stay0 HT9.out)
      have HR9 := Lib.hid (HR6.out.stay0 HT9.out)
      clear HR6
      clear HMI HO6 HS6
      obtain ⟨a2, c2, rfl⟩ := HO2.out.form
      have hlI : (Ls.length : Int) ≤ 51 := by have := HLEN.out; omega
      go_wp2
      go_loopw [14] (fun t wr => ∃ j : Nat, t = .int .i64 (j : Int) ∧ j ≤ Ls.length ∧ Hid (Stay (fun _ => False) w9 wr)) (fun t _ => Ls.length - (intOf t).toNat)
      case atStart => exact ⟨0, rfl, Nat.zero_le _, Lib.hid (Stay.refl _ _)⟩
      case round =>
        obtain ⟨j, rfl, hj, HS⟩ := hrel
        by_cases hlt : j < Ls.length
        · obtain ⟨L, hL⟩ : ∃ L, Ls[j]? = some L := ⟨_, List.getElem?_eq_getElem hlt⟩
          obtain ⟨g1, o1, u1, rfl, cu1, hu1⟩ := ((HX.out.stay0 HS9.out).stay0 HS.out).at hL
          obtain ⟨g2, o2, u2, rfl, cu2, hu2⟩ := (HMI9.out.ess.stay0 HS.out).at hL
          obtain ⟨D, hDd⟩ : ∃ D : World → Prop, D = Stay (fun _ => False) wr := ⟨_, rfl⟩
          have HD := Lib.hid (show ∀ W, D W → Stay (fun _ => False) wr W by intro W h; rw [hDd] at h; exact h)
          have HDm := Lib.hid (show ∀ W, Stay (fun _ => False) wr W → D W by intro W h; rw [hDd]; exact h)
          clear hDd
          have HN0 := Lib.hid (HDm.out _ (Stay.drew (w := wr)))
          have k1 := fun i : InC D => (HD.out _ i.h).cell cu1 (fun x => x)
          have k2 := fun i : InC D => (HD.out _ i.h).cell cu2 (fun x => x)
          have H1 := Lib.hid (show ∀ W, D W → Calls Tryd.prog 11 #[u2, u1] W fun e w' => e = .returned (.bool true) ∧ D w' from fun W h => (entries_eq W u2 u1 L L (hu2.stay0 (HD.out _ h)) (hu1.stay0 (HD.out _ h))).mono fun e w' ⟨h1, h2⟩ => ⟨by rw [h1, decide_eq_true rfl], HDm.out _ ((HD.out _ h).trans h2)⟩)
          obtain ⟨b1, m1, rfl⟩ := hu1.form
          obtain ⟨b2, m2, rfl⟩ := hu2.form
          clear hL cu1 cu2 hu1 hu2
          haveI : Nonempty (InC D) := ⟨⟨_, HN0.out⟩⟩
          go_wp2
          refine wp_region_class D HN0.out (by kernel_rfl) (by kernel_rfl) ?_
          repeat (go_big_quiet_step ((first
            | with_reducible exact calls_class H1.out)))
          refine wpQuiet_nil ?_
          rintro W ⟨i, rfl⟩
          have hst := HD.out _ i.h
          clear k1 k2
          generalize i.w = w10 at *
          have HSN := Lib.hid (HS.out.trans hst)
          clear hst
          go_wp2
          refine ⟨⟨j + 1, by go_num, hlt, HSN⟩, by simp [intOf]; omega⟩
        · obtain rfl : j = Ls.length := by omega
          have HSX := Lib.hid (HS9.out.trans HS.out)
          have HOX := Lib.hid (show EnO w5.heap.size wr v6 (allN Ls) from by have h1 := HO9.out.stay0 HS.out; rw [HM0.out] at h1; exact h1)
          obtain ⟨M, hM⟩ : ∃ M, M = allN Ls := ⟨_, rfl⟩
          rw [← hM] at HOX
          obtain ⟨a6, c6, hv6⟩ := HOX.out.form
          subst hv6
          have hml : (M.length : Int) ≤ 400 := by have h1 := allN_len Ls; have h2 := HSUM.out; rw [hM]; omega
          have HRX := Lib.hid (show RdS (fun k => w4.heap.size ≤ k ∧ k < w5.heap.size) wr r M Ls.length from by rw [hM]; exact HR9.out.stay0 HS.out)
          have HW45 := Lib.hid (show w.heap.size ≤ w4.heap.size ∧ w5.heap.size ≤ wr.heap.size from ⟨HZW4.out, HZW5.out _ (HT6'.out.trans HS.out)⟩)
          clear hM
          go_wp2
          go_loopw [15] (fun t ws => ∃ (j : Nat) (A : Nat → Prop), t = .int .i64 (j : Int) ∧ j ≤ M.length ∧ Hid (RdS A ws r (M.drop j) Ls.length) ∧ Hid (∀ k, A k → w.heap.size ≤ k ∧ k < ws.heap.size ∧ ¬ (Value.slice a6 M.length c6).ownBlock = some k) ∧ Hid (EnS ws (.slice a6 M.length c6) M) ∧ Hid (Stay (fun _ => False) w ws)) (fun t _ => M.length - (intOf t).toNat)
          case atStart =>
            refine ⟨0, _, rfl, Nat.zero_le _, HRX, Lib.hid (fun k hk => ⟨by have := HW45.out.1; have := hk.1; omega, by have := HW45.out.2; have := hk.2; omega, fun h => ?_⟩), Lib.hid HOX.out.ens, HSX⟩
            have h1 := (HOX.out.lt k h).1
            have h2 := hk.2
            omega
          case round =>
            obtain ⟨j, A, rfl, hj, HR, HAK, HEA, HSA⟩ := hrel
            by_cases hlt : j < M.length
            · obtain ⟨e, he⟩ : ∃ e, M[j]? = some e := ⟨_, List.getElem?_eq_getElem hlt⟩
              have HDR := Lib.hid (show M.drop j = e :: M.drop (j + 1) from by obtain ⟨h1, h2⟩ := List.getElem?_eq_some_iff.1 he; rw [List.drop_eq_getElem_cons h1, h2])
              have HRE := Lib.hid (show RdS A wr r (e :: M.drop (j + 1)) Ls.length from by rw [← HDR.out]; exact HR.out)
              obtain ⟨g, o, rfl⟩ := HEA.out.ptr he
              have HE := Lib.hid he
              have H0 := Lib.hid (show eqE e e = true from by rw [eqE_is]; simp)
              clear he
              go_wp2_with fail
              refine (next_some A _ r Ls.length e _ HRE.out (by have := HLEN.out; omega)).mono ?_
              rintro y x1 ⟨rfl, hr1, hs1, _⟩
              have HR1 := Lib.hid hr1
              have HX1 := Lib.hid hs1
              clear hr1 hs1
              have HBA := Lib.hid (Box.new x1 ⟨[], [], false⟩)
              have HAA := Lib.hid (show Stay (fun _ => False) x1 (x1.alloc (.cells (enC ⟨[], [], false⟩).toArray 39)) from Stay.alloc _ _)
              have HZA := Lib.hid (show (x1.alloc (.cells (enC ⟨[], [], false⟩).toArray 39)).heap.size = x1.heap.size + 1 by simp)
              obtain ⟨x2, hx2⟩ : ∃ x2, x1.alloc (.cells (enC ⟨[], [], false⟩).toArray 39) = x2 := ⟨_, rfl⟩
              rw [hx2] at HBA HAA HZA
              have X2 := Lib.hid hx2
              clear hx2
              go_wp2_with (first
                | (with_reducible refine alloc_en rfl rfl ?_; rw [X2.out])
                | (refine Box.store HBA.out rfl (.tmp 16) (.tmp 102) rfl rfl e rfl ?_
                   intro x3 hb3 hs3
                   have HB3 := Lib.hid hb3
                   have HX3 := Lib.hid ((HAA.out.mono (Y := (· = x1.heap.size)) (fun _ x => x.elim)).trans hs3)
                   clear hb3 hs3))
              have HE3 := Lib.hid (show EnS x3 (.slice (some ⟨g, o, none⟩) M.length c6) M from (HEA.out.stay HX1.out (fun k hk h => (HAK.out k h).2.2 hk)).stay HX3.out (fun k hk h => by
                have h0 := HEA.out.at (by omega)
                obtain ⟨g9, o9, e9, hlt9, _⟩ := h0
                cases e9
                have h1 : g = k := Option.some.inj hk
                have h2 : k = x1.heap.size := h
                have h3 := HX1.out.size
                omega))
              have HR3 := Lib.hid (show RdS (fun k => (A k ∨ wr.heap.size ≤ k) ∧ k < x1.heap.size) x3 r (M.drop (j + 1)) Ls.length from (HR1.out.mono (fun k hk h => ⟨h, hk⟩)).stay HX3.out (fun k hk h => by have h1 := hk.2; have h2 : k = x1.heap.size := h; omega))
              have k1 := Lib.hid (fun i : InC (Stay (fun _ => False) x3) => ((HB3.out.stay0 i.h).run_load))
              have k2 := Lib.hid (fun i : InC (Stay (fun _ => False) x3) => ((HE3.out.stay0 i.h).load HE.out))
              haveI : Nonempty (InC (Stay (fun _ => False) x3)) := ⟨⟨x3, Stay.refl _ _⟩⟩
              refine wp_region_class (Stay (fun _ => False) x3) Stay.drew (by kernel_rfl) (by kernel_rfl) ?_
              try go_frame
              repeat (first
                | (refine quiet_loadG (by rfl) 39 (.tmp 16) rfl ⟨x1.heap.size, 0, none⟩ rfl (enV e) k1.out ?_; go_frame)
                | (refine quiet_loadG (by rfl) 39 (.tmp 110) rfl ⟨g, o + j * 3, none⟩ rfl (enV e) k2.out ?_; go_frame)
                | (refine quiet_neq_en (by rfl) (.tmp 107) (.tmp 111) rfl e e rfl rfl ?_; go_frame)
                | (go_big_quiet_step (fail)))
              refine wpQuiet_nil ?_
              rintro W ⟨i, rfl⟩
              have HI := Lib.hid i.h
              generalize i.w = x4 at *
              clear k1 k2
              rw [H0.out]
              go_wp2
              have z1 := HX1.out.size
              have z2 := HX3.out.size
              have z3 := HI.out.size
              have z4 := HSA.out.size
              refine ⟨⟨j + 1, _, by go_num, hlt, Lib.hid (HR3.out.stay0 HI.out), Lib.hid (fun k hk => ⟨?_, ?_, ?_⟩), Lib.hid (HE3.out.stay0 HI.out), Lib.hid ?_⟩, by simp [intOf]; omega⟩
              · rcases hk.1 with h | h
                · exact (HAK.out k h).1
                · omega
              · have := hk.2
                omega
              · intro h
                rcases hk.1 with h2 | h2
                · exact (HAK.out k h2).2.2 h
                · obtain ⟨g9, o9, e9, hlt9, _⟩ := HEA.out.at (by omega)
                  cases e9
                  have h1 : g = k := Option.some.inj h
                  omega
              · exact (stay_seal (((HSA.out.mono (Y := fun k => w.heap.size ≤ k) (fun _ x => x.elim)).trans (HX1.out.mono (fun k hk => (HAK.out k hk).1))).trans (HX3.out.mono (fun k hk => by have h2 : k = x1.heap.size := hk; omega))) (fun k hk => hk)).trans HI.out
            · obtain rfl : j = M.length := by omega
              have HSE := Lib.hid HSA.out
              have HRN := Lib.hid (show RdS A wr r [] Ls.length from by have h1 := HR.out; rwa [List.drop_length] at h1)
              go_wp2_with fail
              refine (next_done A _ r Ls.length HRN.out).mono ?_
              rintro e x1 ⟨rfl, hz1⟩
              have HZ1 := Lib.hid hz1
              clear hz1
              have HBA := Lib.hid (Box.new x1 ⟨[], [], false⟩)
              have HAA := Lib.hid (show Stay (fun _ => False) x1 (x1.alloc (.cells (enC ⟨[], [], false⟩).toArray 39)) from Stay.alloc _ _)
              obtain ⟨x2, hx2⟩ : ∃ x2, x1.alloc (.cells (enC ⟨[], [], false⟩).toArray 39) = x2 := ⟨_, rfl⟩
              rw [hx2] at HBA HAA
              have X2 := Lib.hid hx2
              clear hx2
              go_wp2_with (first
                | (with_reducible refine alloc_en rfl rfl ?_; rw [X2.out])
                | (refine Box.store HBA.out rfl (.tmp 19) (.tmp 117) rfl rfl ⟨[], [], false⟩ rfl ?_
                   intro x3 hb3 hs3
                   have HZ3 := Lib.hid (show Stay (fun _ => False) x1 x3 from stay_seal ((HAA.out.mono (fun _ x => x.elim)).trans hs3) (fun k hk => by have hk' : k = x1.heap.size := hk; omega))
                   clear hb3 hs3))
              refine (next_nil x3).mono ?_
              rintro e x4 ⟨rfl, hz4⟩
              have HZ4 := Lib.hid hz4
              clear hz4
              have HBB := Lib.hid (Box.new x4 ⟨[], [], false⟩)
              have HAB := Lib.hid (show Stay (fun _ => False) x4 (x4.alloc (.cells (enC ⟨[], [], false⟩).toArray 39)) from Stay.alloc _ _)
              obtain ⟨x5, hx5⟩ : ∃ x5, x4.alloc (.cells (enC ⟨[], [], false⟩).toArray 39) = x5 := ⟨_, rfl⟩
              rw [hx5] at HBB HAB
              have X5 := Lib.hid hx5
              clear hx5
              go_wp2_with (first
                | (with_reducible refine alloc_en rfl rfl ?_; rw [X5.out])
                | (refine Box.store HBB.out rfl (.tmp 21) (.tmp 122) rfl rfl ⟨[], [], false⟩ rfl ?_
                   intro x6 hb6 hs6
                   have HZ6 := Lib.hid (show Stay (fun _ => False) x4 x6 from stay_seal ((HAB.out.mono (fun _ x => x.elim)).trans hs6) (fun k hk => by have hk' : k = x4.heap.size := hk; omega))
                   clear hb6 hs6)
                | (go_at_call 6
                   refine (sure_any x6).mono ?_
                   rintro e x7 ⟨rfl, hz7⟩
                   have HZ7 := Lib.hid hz7
                   clear hz7))
              go_ret
              exact ⟨rfl, ((((HSE.out.trans HZ1.out).trans HZ3.out).trans HZ4.out).trans HZ6.out).trans HZ7.out⟩
    · have HNA := Lib.hid hna
      clear hna
      have HE0 := Lib.hid (show resE Ls = 41 from by unfold resE; rw [if_neg HNA.out])
      have HM0 := Lib.hid (show resM Ls = [] from by unfold resM; rw [if_neg HNA.out])
      go_wp2_with fail
      refine (rall_uni w5 _ Ls false (HX.out.stay0 HS5.out) (by have := HLEN.out; omega) (by have := HSUM.out; omega)).mono ?_
      rintro e w6 ⟨v6, rfl, ho6, hs6⟩
      have HS6 := Lib.hid (HS5.out.trans hs6)
      have HW56 := Lib.hid hs6
      have HX6 := Lib.hid (HX3.out.stay0 (HT5.out.trans hs6))
      have HY6 := Lib.hid (HY4.out.stay0 (HT6.out.trans hs6))
      have HMI := Lib.hid (HO2.out.stay0 ((HT3.out.trans HT5.out).trans hs6))
      have HO6 := Lib.hid (show EnO w5.heap.size w6 v6 (resM Ls) from ho6)
      clear ho6 hs6
      go_wp2_with fail
      refine (entries_eq w6 v3 v4 _ _ HX6.out.ens HY6.out.ens).mono ?_
      rintro e w7 ⟨rfl, hs7⟩
      rw [show decide (keepL d (resM Ls) = keepL d (resM Ls)) = true from decide_eq_true rfl]
      have HS7 := Lib.hid (HS6.out.trans hs7)
      have HT7 := Lib.hid hs7
      clear hs7 HX6 HY6
      go_wp2_with fail
      refine (num_any (resE Ls) w7 (ErrCell.stay0 HERR.out HS7.out) _ rfl).mono ?_
      rintro e w8 ⟨rfl, hs8⟩
      have HS8 := Lib.hid (HS7.out.trans hs8)
      have HT8 := Lib.hid (HT7.out.trans hs8)
      clear hs8 HS7 HT7
      go_wp2_with fail
      refine (num_any 41 w8 (ErrCell.stay0 HERR.out HS8.out) _ rfl).mono ?_
      rintro e w9 ⟨rfl, hs9⟩
      have HS9 := Lib.hid (HS8.out.trans hs9)
      have HT9 := Lib.hid (HT8.out.trans hs9)
      clear hs9 HS8 HT8
      rw [HE0.out]
      have HT6' := Lib.hid (HW56.out.trans HT9.out)
      have HMI9 := Lib.hid (HMI.out.stay0 HT9.out)
      have HO9 := Lib.hid (HO6.out.stay0 HT9.out)
      clear HMI HO6 HS6
      obtain ⟨a2, c2, rfl⟩ := HO2.out.form
      have hlI : (Ls.length : Int) ≤ 51 := by have := HLEN.out; omega
      go_wp2
      go_loopw [14] (fun t wr => ∃ j : Nat, t = .int .i64 (j : Int) ∧ j ≤ Ls.length ∧ Hid (Stay (fun _ => False) w9 wr)) (fun t _ => Ls.length - (intOf t).toNat)
      case atStart => exact ⟨0, rfl, Nat.zero_le _, Lib.hid (Stay.refl _ _)⟩
      case round =>
        obtain ⟨j, rfl, hj, HS⟩ := hrel
        by_cases hlt : j < Ls.length
        · obtain ⟨L, hL⟩ : ∃ L, Ls[j]? = some L := ⟨_, List.getElem?_eq_getElem hlt⟩
          obtain ⟨g1, o1, u1, rfl, cu1, hu1⟩ := ((HX.out.stay0 HS9.out).stay0 HS.out).at hL
          obtain ⟨g2, o2, u2, rfl, cu2, hu2⟩ := (HMI9.out.ess.stay0 HS.out).at hL
          obtain ⟨D, hDd⟩ : ∃ D : World → Prop, D = Stay (fun _ => False) wr := ⟨_, rfl⟩
          have HD := Lib.hid (show ∀ W, D W → Stay (fun _ => False) wr W by intro W h; rw [hDd] at h; exact h)
          have HDm := Lib.hid (show ∀ W, Stay (fun _ => False) wr W → D W by intro W h; rw [hDd]; exact h)
          clear hDd
          have HN0 := Lib.hid (HDm.out _ (Stay.drew (w := wr)))
          have k1 := fun i : InC D => (HD.out _ i.h).cell cu1 (fun x => x)
          have k2 := fun i : InC D => (HD.out _ i.h).cell cu2 (fun x => x)
          have H1 := Lib.hid (show ∀ W, D W → Calls Tryd.prog 11 #[u2, u1] W fun e w' => e = .returned (.bool true) ∧ D w' from fun W h => (entries_eq W u2 u1 L L (hu2.stay0 (HD.out _ h)) (hu1.stay0 (HD.out _ h))).mono fun e w' ⟨h1, h2⟩ => ⟨by rw [h1, decide_eq_true rfl], HDm.out _ ((HD.out _ h).trans h2)⟩)
          obtain ⟨b1, m1, rfl⟩ := hu1.form
          obtain ⟨b2, m2, rfl⟩ := hu2.form
          clear hL cu1 cu2 hu1 hu2
          haveI : Nonempty (InC D) := ⟨⟨_, HN0.out⟩⟩
          go_wp2
          refine wp_region_class D HN0.out (by kernel_rfl) (by kernel_rfl) ?_
          repeat (go_big_quiet_step ((first
            | with_reducible exact calls_class H1.out)))
          refine wpQuiet_nil ?_
          rintro W ⟨i, rfl⟩
          have hst := HD.out _ i.h
          clear k1 k2
          generalize i.w = w10 at *
          have HSN := Lib.hid (HS.out.trans hst)
          clear hst
          go_wp2
          refine ⟨⟨j + 1, by go_num, hlt, HSN⟩, by simp [intOf]; omega⟩
        · obtain rfl : j = Ls.length := by omega
          have HSX := Lib.hid (HS9.out.trans HS.out)
          have HOX := Lib.hid (show EnO w5.heap.size wr v6 [] from by have h1 := HO9.out.stay0 HS.out; rw [HM0.out] at h1; exact h1)
          obtain ⟨a6, c6, hv6⟩ := HOX.out.form
          subst hv6
          go_wp2
          go_loopw [15] (fun t ws => t = .int .i64 0 ∧ Hid (Stay (fun _ => False) w ws)) (fun _ _ => 0)
          case atStart => exact ⟨rfl, HSX⟩
          case round =>
            obtain ⟨rfl, HSE⟩ := hrel
            go_wp2_with fail
            refine (next_nil _).mono ?_
            rintro e x1 ⟨rfl, hz1⟩
            have HZ1 := Lib.hid hz1
            clear hz1
            have HBA := Lib.hid (Box.new x1 ⟨[], [], false⟩)
            have HAA := Lib.hid (show Stay (fun _ => False) x1 (x1.alloc (.cells (enC ⟨[], [], false⟩).toArray 39)) from Stay.alloc _ _)
            obtain ⟨x2, hx2⟩ : ∃ x2, x1.alloc (.cells (enC ⟨[], [], false⟩).toArray 39) = x2 := ⟨_, rfl⟩
            rw [hx2] at HBA HAA
            have X2 := Lib.hid hx2
            clear hx2
            go_wp2_with (first
              | (with_reducible refine alloc_en rfl rfl ?_; rw [X2.out])
              | (refine Box.store HBA.out rfl (.tmp 19) (.tmp 117) rfl rfl ⟨[], [], false⟩ rfl ?_
                 intro x3 hb3 hs3
                 have HZ3 := Lib.hid (show Stay (fun _ => False) x1 x3 from stay_seal ((HAA.out.mono (fun _ x => x.elim)).trans hs3) (fun k hk => by have hk' : k = x1.heap.size := hk; omega))
                 clear hb3 hs3))
            refine (next_nil x3).mono ?_
            rintro e x4 ⟨rfl, hz4⟩
            have HZ4 := Lib.hid hz4
            clear hz4
            have HBB := Lib.hid (Box.new x4 ⟨[], [], false⟩)
            have HAB := Lib.hid (show Stay (fun _ => False) x4 (x4.alloc (.cells (enC ⟨[], [], false⟩).toArray 39)) from Stay.alloc _ _)
            obtain ⟨x5, hx5⟩ : ∃ x5, x4.alloc (.cells (enC ⟨[], [], false⟩).toArray 39) = x5 := ⟨_, rfl⟩
            rw [hx5] at HBB HAB
            have X5 := Lib.hid hx5
            clear hx5
            go_wp2_with (first
              | (with_reducible refine alloc_en rfl rfl ?_; rw [X5.out])
              | (refine Box.store HBB.out rfl (.tmp 21) (.tmp 122) rfl rfl ⟨[], [], false⟩ rfl ?_
                 intro x6 hb6 hs6
                 have HZ6 := Lib.hid (show Stay (fun _ => False) x4 x6 from stay_seal ((HAB.out.mono (fun _ x => x.elim)).trans hs6) (fun k hk => by have hk' : k = x4.heap.size := hk; omega))
                 clear hb6 hs6)
              | (go_at_call 6
                 refine (sure_any x6).mono ?_
                 rintro e x7 ⟨rfl, hz7⟩
                 have HZ7 := Lib.hid hz7
                 clear hz7))
            go_ret
            exact ⟨rfl, ((((HSE.out.trans HZ1.out).trans HZ3.out).trans HZ4.out).trans HZ6.out).trans HZ7.out⟩
end Go.Proofs.YtdfhjmodacjilaaDoor.Mg
