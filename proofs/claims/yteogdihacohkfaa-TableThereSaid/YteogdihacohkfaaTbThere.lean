/-
  table's laws: TableThere, walked.
-/
import Derived.Test.YteogdihacohkfaaTbParts
import Derived.Test.YteogdihacohkfaaHeldS
import Derived.Test.YteogdihacohkfaaDeNar
namespace Go.Proofs.Yteogdihacohkfaa.Tb
open Go.RowKit
open Pk (stay_seal)
open Me (En EnS EnO Box enC enV enRows norm ltB Sorted getL posN hasB sizeL entOf putsL putL Short)
open Pk (Slc Owns)
set_option maxRecDepth 100000
set_option linter.unusedVariables false

/-- Two entries held against each other, taken from a drawn region. -/
theorem yieldsIf_neq_en {ops : Array Oper} {o : Oper} {a : Act} {S : World → Prop} (hw : Region.wanted o (yielded ops a.tmps) = true) (x y : Operand) (ho : o.op = .binOp .neq 28 x y 28) (p q : En) (hx : a.eval x = enV p) (hy : a.eval y = enV q) : YieldsIf Try.prog ops S o (.bool (!Me.eqE p q)) a := by
  refine .inl ⟨hw, fun W hW => ?_⟩
  unfold execOp
  simp only [ho, hx, hy, Sem.run_bind, Me.run_guard_en, Me.run_neq_en, Result.andThen_ok]
  rfl
theorem may_in (w : World) (pf gf q : Nat) (M : List En) (e : En) (h : Bo.FAt w pf gf 3 (filtB M q)) (hq : 1 ≤ q) (he : e ∈ M) (hk : e.k.length ≤ 140737488351232) :
    Calls Try.prog 13 #[.pointer (some ⟨pf, 0, none⟩), .string ⟨e.k.toArray⟩] w fun y w' => y = .returned (.bool true) ∧ Stay (fun _ => False) w w' := by
  have h2 := Bo.may_any w pf gf 3 (filtB M q) e.k h (by omega)
  rw [filtB_len] at h2
  have h3 := may_of hq he
  unfold mayT at h3
  rw [h3] at h2
  exact h2

set_option maxHeartbeats 4000000 in
theorem there_walk (w : World) (x : Value) (L : List En) (x0 x1 : Int) (a1 : Option Addr) (c1 : Nat) (ks : List (List UInt8)) (hx : EnS w x L) (hs : Short L) (hks : Bo.Keys w a1 ks) (hkl : ∀ k ∈ ks, k.length ≤ 140737488351232) :
    Calls Try.prog 3 #[x, .agg #[.int .i64 x0, .int .i64 x1], .slice a1 ks.length c1] w fun e w' => e = .returned (.bool true) ∧ Stay (fun _ => False) w w' := by
  have HX := Lib.hid hx
  have HSH := Lib.hid hs
  obtain ⟨a0, c, rfl⟩ := hx.form
  have HKS := Lib.hid hks
  have HKL := Lib.hid hkl
  have hkl2 : (ks.length : Int) ≤ 9223372036854775807 := by have := hks.1; omega
  obtain ⟨b, hb⟩ : ∃ b, b = w.heap.size := ⟨_, rfl⟩
  obtain ⟨w0, hw0⟩ : ∃ w0, w.alloc (.cells #[.int .i64 x0, .int .i64 x1] 24) = w0 := ⟨_, rfl⟩
  have HZW := Lib.hid (show Bo.SzAt w0 b x0 x1 from by rw [hb, ← hw0]; exact heap_alloc_new w _)
  have hs0 : Stay (fun _ => False) w w0 := hw0 ▸ Stay.alloc _ _
  have HSW := Lib.hid hs0
  have HX0 := Lib.hid (HX.out.stay0 hs0)
  have HW0 := HZW
  have WW := Lib.hid hw0
  have HBW := Lib.hid hb
  clear hx hs hks hkl hw0 hs0 hb
  go_enter Try.func3, Try.ntmps3
  go_wp2
  rw [WW.out, ← HBW.out]
  go_loopw [7, 8] (fun v i wr => ∃ j : Nat, i = .int .i64 (j : Int) ∧ j ≤ L.length ∧ j ≤ 40 ∧ Hid (EnS wr v (putsL L j)) ∧ Stay (fun _ => False) w0 wr) (fun _ i _ => L.length - (intOf i).toNat)
  case atStart => exact ⟨0, rfl, Nat.zero_le _, Nat.zero_le _, Lib.hid (EnS.nil _), Stay.refl _ _⟩
  case round =>
    obtain ⟨j, rfl, hj, hj40, hv, hst⟩ := hrel
    have HS := Lib.hid hst
    have HM := Lib.hid (show (putsL L j).length ≤ 1000 by have := Me.putsL_len L j; omega)
    clear hst
    by_cases hlt : j < L.length
    · by_cases hlt40 : j < 40
      · obtain ⟨q, hq⟩ : ∃ q, L[j]? = some q := ⟨_, List.getElem?_eq_getElem (by omega)⟩
        obtain ⟨g, o, rfl, _, hc⟩ := (HX0.out.stay0 HS.out).at (by omega)
        obtain ⟨h0, h1, h2⟩ := hc _ q hq
        have kl := Lib.hid (Me.run_load_at h0 h1 h2)
        have HP := Lib.hid (Me.putsL_succ hq)
        clear hq hc h0 h1 h2
        go_wp2_with (first
          | (refine Me.wpList_load_run (by rfl) 28 (.tmp 38) rfl ⟨g, o + j * 3, none⟩ rfl _ kl.out ?_))
        refine (Me.rput_any wr _ (putsL L j) q hv.out HM.out).mono ?_
        rintro y w2 ⟨v2, rfl, ho2, hs2⟩
        rw [← HP.out] at ho2
        have HO2 := Lib.hid ho2.ens
        have HS2 := Lib.hid (HS.out.trans hs2)
        clear ho2 hs2
        go_wp2
        refine ⟨⟨j + 1, by go_num, hlt, hlt40, HO2, HS2.out⟩, by simp [intOf]; omega⟩
      · skip
        have hml : (putsL L j).length ≤ 40 := by have := Me.putsL_len L j; omega
        obtain ⟨M, hM⟩ : ∃ M, M = putsL L j := ⟨_, rfl⟩
        have hMs : Sorted M := hM ▸ Me.putsL_sorted L j
        have hMn : ∀ e ∈ M, norm e = e := hM ▸ norm_puts L j
        have hMh : Short M := hM ▸ Me.short_puts HSH.out j
        have hMz : sizeL M ≤ M.length * 281474976702464 := Me.short_size hMh
        rw [← hM] at hv HM hml
        clear hM
        obtain ⟨n, hn⟩ : ∃ n, n = M.length := ⟨_, rfl⟩
        have HNL := Lib.hid hn
        have HMS := Lib.hid hMs
        have HMN := Lib.hid hMn
        have HMH := Lib.hid hMh
        obtain ⟨av, cv, rfl⟩ := hv.out.form
        rw [← hn] at hv hml hMz ⊢
        have hnm : (n : Int) ≤ 40 := by omega
        have HSZ := Lib.hid (show Calls Try.prog 6 #[.slice av n cv] wr fun e w' => e = .returned (.int .i64 (sizeL M : Int)) ∧ Stay (fun _ => False) wr w' from Me.rsize_any wr _ M hv.out (by omega))
        clear hn hMs hMn hMh
        by_cases h0 : n = 0
        · have hn0 : ((n : Int) == 0) = true := by simp [h0]
          go_wp2_with fail
          refine (sure_any wr).mono ?_
          rintro e w3 ⟨rfl, s3⟩
          have HF := Lib.hid (HS.out.trans s3)
          clear s3
          go_wp2
          go_ret
          exact ⟨rfl, HSW.out.trans HF.out⟩
        · have hn0 : ((n : Int) == 0) = false := beq_eq_false_iff_ne.2 (by omega)
          go_wp2_with fail
          refine HSZ.out.mono ?_
          rintro e w3 ⟨rfl, s3⟩
          have HS3 := Lib.hid (HS.out.trans s3)
          have hv3 := Lib.hid (hv.out.stay0 s3)
          have HB3 := Lib.hid (HW0.out.stay0 HS3.out)
          clear s3
          obtain ⟨sz, hsz⟩ : ∃ sz, sz = sizeL M := ⟨_, rfl⟩
          have HZ := Lib.hid hsz
          rw [← hsz]
          clear hsz
          by_cases hbig : 100000 < sz
          · go_wp2_with fail
            refine (sure_any w3).mono ?_
            rintro e w4 ⟨rfl, s4⟩
            have HF := Lib.hid (HS3.out.trans s4)
            clear s4
            go_wp2
            go_ret
            exact ⟨rfl, HSW.out.trans HF.out⟩
          · obtain ⟨p, hp, hp1, hp9⟩ : ∃ k : Nat, wrap64 (1 + wrap64 ((IntKind.u64.wrap x0).tmod 9)) = (k : Int) ∧ 1 ≤ k ∧ k ≤ 9 := small_mod x0 9 (by omega) (by omega)
            obtain ⟨q, hq, hq1, hq16⟩ : ∃ k : Nat, wrap64 (1 + wrap64 ((IntKind.u64.wrap x1).tmod 16)) = (k : Int) ∧ 1 ≤ k ∧ k ≤ 16 := small_mod x1 16 (by omega) (by omega)
            have HPP := Lib.hid hp
            have HQQ := Lib.hid hq
            have HZ0 := Lib.hid HB3.out.c0
            have HZ1 := Lib.hid HB3.out.c1
            have hqn : q * M.length ≤ 16 * 40 := Nat.mul_le_mul hq16 (by rw [← HNL.out]; exact hml)
            have hG : Good M p q := ⟨hp1, hq1, by have := HNL.out; omega, by have := HNL.out; omega, HMS.out, HMN.out, by have := HZ.out; omega, by omega⟩
            have hTL : (tabB M p q).length ≤ 1048576 := by
              have h1 := length_tabB (L := M) (p := p) (q := q) hp1 (by omega)
              have h2 := HNL.out
              have h3 := HZ.out
              omega
            have HG := Lib.hid hG
            have HTL := Lib.hid hTL
            clear hp hq hG hTL hqn
            go_wp2
            refine wp_region_held (S := Stay (fun _ => False) w3.drew) (by kernel_rfl) ?_
            change wpAnyH _ _ _ _ _ _ _ _ (World.drew _)
            have hst : Stay (fun _ => False) w3 w3.drew := Stay.drew
            refine wpAnyH_takeL (i := 0) (v := .slice av n cv) #[true, false, false, false, false, false, false, false, false, false, false, false, false, false, false, false, false, false, false, false] rfl (by kernel_rfl) (by kernel_rfl) (by kernel_rfl) (fun _ _ _ h => h) (by kernel_rfl) (Stay.refl _ _) (Or.inl ⟨by rfl, fun W hW => ?_⟩) ?_
            · go_simp
            conv => arg 8; simp [Act.put]
            refine wpAnyH_takeL (i := 2) (v := .pointer (some ⟨b, 0, none⟩)) #[true, false, true, false, false, false, false, false, false, false, false, false, false, false, false, false, false, false, false, false] rfl (by kernel_rfl) (by kernel_rfl) (by kernel_rfl) (fun _ _ _ h => h) (by kernel_rfl) (Stay.refl _ _) (Or.inl ⟨by rfl, fun W hW => ?_⟩) ?_
            · go_simp
            conv => arg 8; simp [Act.put]
            refine wpAnyH_takeL (i := 3) (v := .int .i64 x0) #[true, false, true, true, false, false, false, false, false, false, false, false, false, false, false, false, false, false, false, false] rfl (by kernel_rfl) (by kernel_rfl) (by kernel_rfl) (fun _ _ _ h => h) (by kernel_rfl) (Stay.refl _ _) (Or.inl ⟨by rfl, fun W hW => ?_⟩) ?_
            · have kc := (hst.trans hW).cell HZ0.out (fun x => x)
              go_simp
            conv => arg 8; simp [Act.put]
            refine wpAnyH_takeL (i := 4) (v := .int .u64 (IntKind.u64.wrap x0)) #[true, false, true, true, true, false, false, false, false, false, false, false, false, false, false, false, false, false, false, false] rfl (by kernel_rfl) (by kernel_rfl) (by kernel_rfl) (fun _ _ _ h => h) (by kernel_rfl) (Stay.refl _ _) (Or.inl ⟨by rfl, fun W hW => ?_⟩) ?_
            · go_simp
            conv => arg 8; simp [Act.put]
            refine wpAnyH_takeL (i := 5) (v := .int .u64 ((IntKind.u64.wrap x0).tmod 9)) #[true, false, true, true, true, true, false, false, false, false, false, false, false, false, false, false, false, false, false, false] rfl (by kernel_rfl) (by kernel_rfl) (by kernel_rfl) (fun _ _ _ h => h) (by kernel_rfl) (Stay.refl _ _) (Or.inl ⟨by rfl, fun W hW => ?_⟩) ?_
            · go_simp
            conv => arg 8; simp [Act.put]
            refine wpAnyH_takeL (i := 6) (v := .int .i64 (wrap64 ((IntKind.u64.wrap x0).tmod 9))) #[true, false, true, true, true, true, true, false, false, false, false, false, false, false, false, false, false, false, false, false] rfl (by kernel_rfl) (by kernel_rfl) (by kernel_rfl) (fun _ _ _ h => h) (by kernel_rfl) (Stay.refl _ _) (Or.inl ⟨by rfl, fun W hW => ?_⟩) ?_
            · go_simp
              exact Bo.i64_wrap _
            conv => arg 8; simp [Act.put]
            refine wpAnyH_takeL (i := 7) (v := .int .i64 (p : Int)) #[true, false, true, true, true, true, true, true, false, false, false, false, false, false, false, false, false, false, false, false] rfl (by kernel_rfl) (by kernel_rfl) (by kernel_rfl) (fun _ _ _ h => h) (by kernel_rfl) (Stay.refl _ _) (Or.inl ⟨by rfl, fun W hW => ?_⟩) ?_
            · go_simp
              exact (Bo.i64_wrap _).trans HPP.out
            conv => arg 8; simp [Act.put]
            refine wpAnyH_takeL (i := 8) (v := .pointer (some ⟨b, 1, none⟩)) #[true, false, true, true, true, true, true, true, true, false, false, false, false, false, false, false, false, false, false, false] rfl (by kernel_rfl) (by kernel_rfl) (by kernel_rfl) (fun _ _ _ h => h) (by kernel_rfl) (Stay.refl _ _) (Or.inl ⟨by rfl, fun W hW => ?_⟩) ?_
            · go_simp
            conv => arg 8; simp [Act.put]
            refine wpAnyH_takeL (i := 9) (v := .int .i64 x1) #[true, false, true, true, true, true, true, true, true, true, false, false, false, false, false, false, false, false, false, false] rfl (by kernel_rfl) (by kernel_rfl) (by kernel_rfl) (fun _ _ _ h => h) (by kernel_rfl) (Stay.refl _ _) (Or.inl ⟨by rfl, fun W hW => ?_⟩) ?_
            · have kc := (hst.trans hW).cell HZ1.out (fun x => x)
              go_simp
            conv => arg 8; simp [Act.put]
            refine wpAnyH_takeL (i := 10) (v := .int .u64 (IntKind.u64.wrap x1)) #[true, false, true, true, true, true, true, true, true, true, true, false, false, false, false, false, false, false, false, false] rfl (by kernel_rfl) (by kernel_rfl) (by kernel_rfl) (fun _ _ _ h => h) (by kernel_rfl) (Stay.refl _ _) (Or.inl ⟨by rfl, fun W hW => ?_⟩) ?_
            · go_simp
            conv => arg 8; simp [Act.put]
            refine wpAnyH_takeL (i := 11) (v := .int .u64 ((IntKind.u64.wrap x1).tmod 16)) #[true, false, true, true, true, true, true, true, true, true, true, true, false, false, false, false, false, false, false, false] rfl (by kernel_rfl) (by kernel_rfl) (by kernel_rfl) (fun _ _ _ h => h) (by kernel_rfl) (Stay.refl _ _) (Or.inl ⟨by rfl, fun W hW => ?_⟩) ?_
            · go_simp
            conv => arg 8; simp [Act.put]
            refine wpAnyH_takeL (i := 12) (v := .int .i64 (wrap64 ((IntKind.u64.wrap x1).tmod 16))) #[true, false, true, true, true, true, true, true, true, true, true, true, true, false, false, false, false, false, false, false] rfl (by kernel_rfl) (by kernel_rfl) (by kernel_rfl) (fun _ _ _ h => h) (by kernel_rfl) (Stay.refl _ _) (Or.inl ⟨by rfl, fun W hW => ?_⟩) ?_
            · go_simp
              exact Bo.i64_wrap _
            conv => arg 8; simp [Act.put]
            refine wpAnyH_takeL (i := 13) (v := .int .i64 (q : Int)) #[true, false, true, true, true, true, true, true, true, true, true, true, true, true, false, false, false, false, false, false] rfl (by kernel_rfl) (by kernel_rfl) (by kernel_rfl) (fun _ _ _ h => h) (by kernel_rfl) (Stay.refl _ _) (Or.inl ⟨by rfl, fun W hW => ?_⟩) ?_
            · go_simp
              exact (Bo.i64_wrap _).trans HQQ.out
            conv => arg 8; simp [Act.put]
            refine wpAnyH_one #[true, true, true, true, true, true, true, true, true, true, true, true, true, true, false, false, false, false, false, false] (i := 1) rfl (by kernel_rfl) (by kernel_rfl) (fun K hK => ?_)
            go_simp
            go_wp2_with (go_at_call 9; refine (Me.own_any w3.drew _ M (hv3.out.stay0 hst) (by have := HNL.out; omega)).mono ?_; rintro e z1 ⟨v4, rfl, ho4, s⟩; have HE4 := Lib.hid ho4.ens; clear ho4)
            replace hst := hst.trans s
            refine hK _ _ s ?_
            clear hK
            conv => arg 8; simp [Act.put]
            refine wpAnyH_narrow (S' := Stay (fun _ => False) z1) (fun _ h => s.trans h) _ _ _ _ ?_
            clear s
            refine wpAnyH_one #[true, true, true, true, true, true, true, true, true, true, true, true, true, true, true, false, false, false, false, false] (i := 14) rfl (by kernel_rfl) (by kernel_rfl) (fun K hK => ?_)
            go_simp
            go_wp2_with (go_at_call 8; refine (build_ok z1 v4 M p q HE4.out HMS.out hp1 (by omega) hq1 (by omega) HG.out.n1 HG.out.n2 (by have := HG.out.sz; omega) HTL.out).mono ?_; rintro e z2 ⟨⟨v5, rfl, ho5⟩, s⟩; have HSL5 := Lib.hid ho5.slc; obtain ⟨a5, l5, c5, rfl⟩ : ∃ a l c, v5 = .slice a l c := (by obtain ⟨a, c, e⟩ := ho5.form; exact ⟨a, _, c, e⟩); clear ho5)
            replace hst := hst.trans s
            refine hK _ _ s ?_
            clear hK
            conv => arg 8; simp [Act.put]
            refine wpAnyH_narrow (S' := Stay (fun _ => False) z2) (fun _ h => s.trans h) _ _ _ _ ?_
            clear s
            refine wpAnyH_takeL (i := 15) (v := .tuple #[.slice a5 l5 c5, .nilIface]) #[true, true, true, true, true, true, true, true, true, true, true, true, true, true, true, true, false, false, false, false] rfl (by kernel_rfl) (by kernel_rfl) (by kernel_rfl) (fun _ _ _ h => h) (by kernel_rfl) (Stay.refl _ _) (Or.inl ⟨by rfl, fun W hW => ?_⟩) ?_
            · go_simp
            conv => arg 8; simp [Act.put]
            refine wpAnyH_takeL (i := 16) (v := .slice a5 l5 c5) #[true, true, true, true, true, true, true, true, true, true, true, true, true, true, true, true, true, false, false, false] rfl (by kernel_rfl) (by kernel_rfl) (by kernel_rfl) (fun _ _ _ h => h) (by kernel_rfl) (Stay.refl _ _) (Or.inl ⟨by rfl, fun W hW => ?_⟩) ?_
            · go_simp
            conv => arg 8; simp [Act.put]
            refine wpAnyH_takeL (i := 17) (v := .nilIface) #[true, true, true, true, true, true, true, true, true, true, true, true, true, true, true, true, true, true, false, false] rfl (by kernel_rfl) (by kernel_rfl) (by kernel_rfl) (fun _ _ _ h => h) (by kernel_rfl) (Stay.refl _ _) (Or.inl ⟨by rfl, fun W hW => ?_⟩) ?_
            · go_simp
            conv => arg 8; simp [Act.put]
            refine wpAnyH_takeL (i := 18) (v := .slice a5 l5 c5) #[true, true, true, true, true, true, true, true, true, true, true, true, true, true, true, true, true, true, true, false] rfl (by kernel_rfl) (by kernel_rfl) (by kernel_rfl) (fun _ _ _ h => h) (by kernel_rfl) (Stay.refl _ _) (Or.inl ⟨by rfl, fun W hW => ?_⟩) ?_
            · go_simp
            conv => arg 8; simp [Act.put]
            refine wpAnyH_takeL (i := 19) (v := .nilIface) #[true, true, true, true, true, true, true, true, true, true, true, true, true, true, true, true, true, true, true, true] rfl (by kernel_rfl) (by kernel_rfl) (by kernel_rfl) (fun _ _ _ h => h) (by kernel_rfl) (Stay.refl _ _) (Or.inl ⟨by rfl, fun W hW => ?_⟩) ?_
            · go_simp
            conv => arg 8; simp [Act.put]
            refine wpAnyH_done (by kernel_rfl) ?_ _
            have HS6 := Lib.hid (HS3.out.trans hst)
            have hv6 := Lib.hid (hv3.out.stay0 hst)
            have HOP := Lib.hid (open_any z2 _ M p q HSL5.out HG.out)
            clear hst HE4 HSL5 HSZ
            go_wp2_with fail
            refine HOP.out.mono ?_
            rintro e w7 ⟨⟨t, rfl, _, ht⟩, s7⟩
            have HS7 := Lib.hid (HS6.out.trans s7)
            have hv7 := Lib.hid (hv6.out.stay0 s7)
            have HT7 := Lib.hid ht
            clear ht s7 HOP
            obtain ⟨g, o, rfl, _, _⟩ := hv7.out.at (by have := HNL.out; omega)
            go_wp2
            go_loopw [13] (fun i wr => ∃ i' : Nat, i = .int .i64 (i' : Int) ∧ i' ≤ n ∧ Stay (fun _ => False) w7 wr) (fun i _ => n - (intOf i).toNat)
            case atStart => exact ⟨0, rfl, Nat.zero_le _, Stay.refl _ _⟩
            case round =>
              obtain ⟨i, rfl, hi, hst⟩ := hrel
              have HWR := Lib.hid hst
              clear hst
              by_cases hin : i < n
              · obtain ⟨e, he⟩ : ∃ e, M[i]? = some e := ⟨_, List.getElem?_eq_getElem (by rw [← HNL.out]; exact hin)⟩
                have HEI := Lib.hid he
                have hem : e ∈ M := List.mem_of_getElem? he
                have HEM := Lib.hid hem
                have HEK := Lib.hid (HMH.out e hem).1
                have HGE := Lib.hid ((Me.getL_mem HMS.out e).1 hem)
                obtain ⟨_, _, e9, _, hcc⟩ := (hv7.out.stay0 HWR.out).at (by have := HNL.out; omega)
                cases e9
                have c0 := (hcc i e he).1
                have HC0' := Lib.hid c0
                have hin' : (i : Int) < n := by omega
                clear he hem hcc
                go_wp2_with fail
                refine (get_any wr t p q M e.k (HT7.out.stay0 HWR.out) HEK.out).mono ?_
                rintro y w8 ⟨rfl, s8⟩
                rw [HGE.out]
                simp only [entOf, Option.isSome_some]
                have HW8' := Lib.hid (HWR.out.trans s8)
                have HC8 := Lib.hid (s8.cell HC0'.out (fun x => x))
                have HBX := Lib.hid (Box.new w8 ⟨[], [], false⟩)
                have HA := Lib.hid (show Stay (fun _ => False) w8 (w8.alloc (.cells (enC ⟨[], [], false⟩).toArray 28)) from Stay.alloc _ _)
                obtain ⟨bx, hbx⟩ : ∃ bx, bx = w8.heap.size := ⟨_, rfl⟩
                rw [← hbx] at HBX
                have HBB := Lib.hid hbx
                obtain ⟨wa, hwa⟩ : ∃ wa, w8.alloc (.cells (enC ⟨[], [], false⟩).toArray 28) = wa := ⟨_, rfl⟩
                rw [hwa] at HBX HA
                have WA := Lib.hid hwa
                clear s8 c0 hbx hwa
                obtain ⟨w9, hw9⟩ : ∃ w9, w9 = w8 := ⟨_, rfl⟩
                clear hw9
                go_wp2_with (first
                  | (with_reducible refine Me.alloc_en rfl rfl ?_; rw [WA.out, ← HBB.out])
                  | ((with_reducible refine Me.at_op (.store 28 (.tmp 14) (.tmp 97)) rfl ?_); refine Box.store HBX.out rfl (.tmp 14) (.tmp 97) rfl rfl e rfl ?_
                     intro wb hbb hsb
                     have HBX8 := Lib.hid hbb
                     have HSB := Lib.hid (show Stay (fun _ => False) w8 wb from stay_seal ((HA.out.mono (fun _ x => x.elim)).trans hsb) (fun k hk => by have hk' : k = bx := hk; have := HBB.out; omega))
                     clear hbb hsb))
                have HW8 := Lib.hid (HW8'.out.trans HSB.out)
                have HV8 := Lib.hid (hv7.out.stay0 HW8.out)
                have HT8 := Lib.hid (HT7.out.stay0 HW8.out)
                have HC0 := Lib.hid (HSB.out.cell HC8.out (fun x => x))
                have HEE := Lib.hid (show (!Me.eqE e e) = false by rw [Me.eqE_is]; simp)
                obtain ⟨wc, hwc⟩ : ∃ wc, wc = wb := ⟨_, rfl⟩
                rw [← hwc] at HBX8 HSB HW8 HV8 HT8 HC0 ⊢
                clear hwc HA HBX WA
                go_wp2
                refine wp_region_held (S := Stay (fun _ => False) wc.drew) (by kernel_rfl) ?_
                change wpAnyH _ _ _ _ _ _ _ _ (World.drew _)
                have hst : Stay (fun _ => False) wc wc.drew := Stay.drew
                refine wpAnyH_takeL (i := 0) (v := .nilIface) #[true, false, false, false, false, false, false, false, false, false, false, false, false, false, false, false, false, false, false, false, false, false, false, false, false] rfl (by kernel_rfl) (by kernel_rfl) (by kernel_rfl) (fun _ _ _ h => h) (by kernel_rfl) (Stay.refl _ _) (Or.inl ⟨by rfl, fun W hW => ?_⟩) ?_
                · go_simp
                conv => arg 8; simp [Act.put]
                refine wpAnyH_takeL (i := 1) (v := .bool false) #[true, true, false, false, false, false, false, false, false, false, false, false, false, false, false, false, false, false, false, false, false, false, false, false, false] rfl (by kernel_rfl) (by kernel_rfl) (by kernel_rfl) (fun _ _ _ h => h) (by kernel_rfl) (Stay.refl _ _) (Or.inl ⟨by rfl, fun W hW => ?_⟩) ?_
                · go_simp
                conv => arg 8; simp [Act.put]
                refine wpAnyH_takeL (i := 2) (v := .bool false) #[true, true, true, false, false, false, false, false, false, false, false, false, false, false, false, false, false, false, false, false, false, false, false, false, false] rfl (by kernel_rfl) (by kernel_rfl) (by kernel_rfl) (fun _ _ _ h => h) (by kernel_rfl) (Stay.refl _ _) (Or.inl ⟨by rfl, fun W hW => ?_⟩) ?_
                · go_simp
                conv => arg 8; simp [Act.put]
                refine wpAnyH_takeL (i := 3) (v := .bool true) #[true, true, true, true, false, false, false, false, false, false, false, false, false, false, false, false, false, false, false, false, false, false, false, false, false] rfl (by kernel_rfl) (by kernel_rfl) (by kernel_rfl) (fun _ _ _ h => h) (by kernel_rfl) (Stay.refl _ _) (Or.inl ⟨by rfl, fun W hW => ?_⟩) ?_
                · go_simp
                conv => arg 8; simp [Act.put]
                refine wpAnyH_takeL (i := 4) (v := .bool false) #[true, true, true, true, true, false, false, false, false, false, false, false, false, false, false, false, false, false, false, false, false, false, false, false, false] rfl (by kernel_rfl) (by kernel_rfl) (by kernel_rfl) (fun _ _ _ h => h) (by kernel_rfl) (Stay.refl _ _) (Or.inl ⟨by rfl, fun W hW => ?_⟩) ?_
                · go_simp
                conv => arg 8; simp [Act.put]
                refine wpAnyH_takeL (i := 5) (v := .bool false) #[true, true, true, true, true, true, false, false, false, false, false, false, false, false, false, false, false, false, false, false, false, false, false, false, false] rfl (by kernel_rfl) (by kernel_rfl) (by kernel_rfl) (fun _ _ _ h => h) (by kernel_rfl) (Stay.refl _ _) (Or.inl ⟨by rfl, fun W hW => ?_⟩) ?_
                · go_simp
                conv => arg 8; simp [Act.put]
                refine wpAnyH_takeL (i := 6) (v := .bool false) #[true, true, true, true, true, true, true, false, false, false, false, false, false, false, false, false, false, false, false, false, false, false, false, false, false] rfl (by kernel_rfl) (by kernel_rfl) (by kernel_rfl) (fun _ _ _ h => h) (by kernel_rfl) (Stay.refl _ _) (Or.inl ⟨by rfl, fun W hW => ?_⟩) ?_
                · go_simp
                conv => arg 8; simp [Act.put]
                refine wpAnyH_takeL (i := 8) (v := .slice (some ⟨g, o, none⟩) n cv) #[true, true, true, true, true, true, true, false, true, false, false, false, false, false, false, false, false, false, false, false, false, false, false, false, false] rfl (by kernel_rfl) (by kernel_rfl) (by kernel_rfl) (fun _ _ _ h => h) (by kernel_rfl) (Stay.refl _ _) (Or.inl ⟨by rfl, fun W hW => ?_⟩) ?_
                · go_simp
                conv => arg 8; simp [Act.put]
                refine wpAnyH_takeL (i := 9) (v := .int .i64 (i : Int)) #[true, true, true, true, true, true, true, false, true, true, false, false, false, false, false, false, false, false, false, false, false, false, false, false, false] rfl (by kernel_rfl) (by kernel_rfl) (by kernel_rfl) (fun _ _ _ h => h) (by kernel_rfl) (Stay.refl _ _) (Or.inl ⟨by rfl, fun W hW => ?_⟩) ?_
                · go_simp
                conv => arg 8; simp [Act.put]
                refine wpAnyH_takeL (i := 10) (v := .pointer (some ⟨g, o + i * 3, none⟩)) #[true, true, true, true, true, true, true, false, true, true, true, false, false, false, false, false, false, false, false, false, false, false, false, false, false] rfl (by kernel_rfl) (by kernel_rfl) (by kernel_rfl) (fun _ _ _ h => h) (by kernel_rfl) (Stay.refl _ _) (Or.inl ⟨by rfl, fun W hW => ?_⟩) ?_
                · go_simp
                conv => arg 8; simp [Act.put]
                refine wpAnyH_takeL (i := 7) #[true, true, true, true, true, true, true, true, true, true, true, false, false, false, false, false, false, false, false, false, false, false, false, false, false] rfl (by kernel_rfl) (by kernel_rfl) (by kernel_rfl) (fun _ _ _ h => h) (by kernel_rfl) (Stay.refl _ _) (yieldsIf_load rfl 28 (.tmp 14) rfl ⟨bx, 0, none⟩ rfl _ (fun W hW => (HBX8.out.stay0 (hst.trans hW)).run_load)) ?_
                conv => arg 8; simp [Act.put]
                refine wpAnyH_takeL (i := 11) #[true, true, true, true, true, true, true, true, true, true, true, true, false, false, false, false, false, false, false, false, false, false, false, false, false] rfl (by kernel_rfl) (by kernel_rfl) (by kernel_rfl) (fun _ _ _ h => h) (by kernel_rfl) (Stay.refl _ _) (yieldsIf_load rfl 28 (.tmp 110) rfl ⟨g, o + i * 3, none⟩ rfl _ (fun W hW => (HV8.out.stay0 (hst.trans hW)).load HEI.out)) ?_
                conv => arg 8; simp [Act.put]
                refine wpAnyH_takeL (i := 12) #[true, true, true, true, true, true, true, true, true, true, true, true, true, false, false, false, false, false, false, false, false, false, false, false, false] rfl (by kernel_rfl) (by kernel_rfl) (by kernel_rfl) (fun _ _ _ h => h) (by kernel_rfl) (Stay.refl _ _) (yieldsIf_neq_en rfl (.tmp 107) (.tmp 111) rfl e e rfl rfl) ?_
                conv => arg 8; simp [Act.put]
                rw [HEE.out]
                refine wpAnyH_takeL (i := 13) (v := .bool false) #[true, true, true, true, true, true, true, true, true, true, true, true, true, true, false, false, false, false, false, false, false, false, false, false, false] rfl (by kernel_rfl) (by kernel_rfl) (by kernel_rfl) (fun _ _ _ h => h) (by kernel_rfl) (Stay.refl _ _) (Or.inl ⟨by rfl, fun W hW => ?_⟩) ?_
                · go_simp
                conv => arg 8; simp [Act.put]
                refine wpAnyH_takeL (i := 14) (v := .bool false) #[true, true, true, true, true, true, true, true, true, true, true, true, true, true, true, false, false, false, false, false, false, false, false, false, false] rfl (by kernel_rfl) (by kernel_rfl) (by kernel_rfl) (fun _ _ _ h => h) (by kernel_rfl) (Stay.refl _ _) (Or.inl ⟨by rfl, fun W hW => ?_⟩) ?_
                · go_simp
                conv => arg 8; simp [Act.put]
                refine wpAnyH_takeL (i := 15) (v := .pointer (some ⟨t, 0, none⟩)) #[true, true, true, true, true, true, true, true, true, true, true, true, true, true, true, true, false, false, false, false, false, false, false, false, false] rfl (by kernel_rfl) (by kernel_rfl) (by kernel_rfl) (fun _ _ _ h => h) (by kernel_rfl) (Stay.refl _ _) (Or.inl ⟨by rfl, fun W hW => ?_⟩) ?_
                · go_simp
                conv => arg 8; simp [Act.put]
                refine wpAnyH_takeL (i := 17) (v := .slice (some ⟨g, o, none⟩) n cv) #[true, true, true, true, true, true, true, true, true, true, true, true, true, true, true, true, false, true, false, false, false, false, false, false, false] rfl (by kernel_rfl) (by kernel_rfl) (by kernel_rfl) (fun _ _ _ h => h) (by kernel_rfl) (Stay.refl _ _) (Or.inl ⟨by rfl, fun W hW => ?_⟩) ?_
                · go_simp
                conv => arg 8; simp [Act.put]
                refine wpAnyH_takeL (i := 18) (v := .int .i64 (i : Int)) #[true, true, true, true, true, true, true, true, true, true, true, true, true, true, true, true, false, true, true, false, false, false, false, false, false] rfl (by kernel_rfl) (by kernel_rfl) (by kernel_rfl) (fun _ _ _ h => h) (by kernel_rfl) (Stay.refl _ _) (Or.inl ⟨by rfl, fun W hW => ?_⟩) ?_
                · go_simp
                conv => arg 8; simp [Act.put]
                refine wpAnyH_takeL (i := 19) (v := .pointer (some ⟨g, o + i * 3, none⟩)) #[true, true, true, true, true, true, true, true, true, true, true, true, true, true, true, true, false, true, true, true, false, false, false, false, false] rfl (by kernel_rfl) (by kernel_rfl) (by kernel_rfl) (fun _ _ _ h => h) (by kernel_rfl) (Stay.refl _ _) (Or.inl ⟨by rfl, fun W hW => ?_⟩) ?_
                · go_simp
                conv => arg 8; simp [Act.put]
                refine wpAnyH_takeL (i := 20) (v := .pointer (some ⟨g, o + i * 3, none⟩)) #[true, true, true, true, true, true, true, true, true, true, true, true, true, true, true, true, false, true, true, true, true, false, false, false, false] rfl (by kernel_rfl) (by kernel_rfl) (by kernel_rfl) (fun _ _ _ h => h) (by kernel_rfl) (Stay.refl _ _) (Or.inl ⟨by rfl, fun W hW => ?_⟩) ?_
                · go_simp
                conv => arg 8; simp [Act.put]
                refine wpAnyH_takeL (i := 21) (v := .string ⟨e.k.toArray⟩) #[true, true, true, true, true, true, true, true, true, true, true, true, true, true, true, true, false, true, true, true, true, true, false, false, false] rfl (by kernel_rfl) (by kernel_rfl) (by kernel_rfl) (fun _ _ _ h => h) (by kernel_rfl) (Stay.refl _ _) (Or.inl ⟨by rfl, fun W hW => ?_⟩) ?_
                · have kc := (hst.trans hW).cell HC0.out (fun x => x)
                  go_simp
                conv => arg 8; simp [Act.put]
                refine wpAnyH_one #[true, true, true, true, true, true, true, true, true, true, true, true, true, true, true, true, true, true, true, true, true, true, false, false, false] (i := 16) rfl (by kernel_rfl) (by kernel_rfl) (fun K hK => ?_)
                go_simp
                go_wp2_with (go_at_call 12; refine (filter_any wc.drew t p q M (HT8.out.stay0 hst) HG.out.qn).mono ?_; rintro e z1 ⟨⟨pf, gf, rfl, hf⟩, s⟩; have HF := Lib.hid hf; clear hf)
                replace hst := hst.trans s
                refine hK _ _ s ?_
                clear hK
                conv => arg 8; simp [Act.put]
                refine wpAnyH_narrow (S' := Stay (fun _ => False) z1) (fun _ h => s.trans h) _ _ _ _ ?_
                clear s
                refine wpAnyH_one #[true, true, true, true, true, true, true, true, true, true, true, true, true, true, true, true, true, true, true, true, true, true, true, false, false] (i := 22) rfl (by kernel_rfl) (by kernel_rfl) (fun K hK => ?_)
                go_simp
                go_wp2_with (go_at_call 13; refine (may_in z1 pf gf q M e HF.out hq1 HEM.out HEK.out).mono ?_; rintro e z2 ⟨rfl, s⟩)
                replace hst := hst.trans s
                refine hK _ _ s ?_
                clear hK
                conv => arg 8; simp [Act.put]
                refine wpAnyH_narrow (S' := Stay (fun _ => False) z2) (fun _ h => s.trans h) _ _ _ _ ?_
                clear s
                refine wpAnyH_takeL (i := 23) (v := .bool false) #[true, true, true, true, true, true, true, true, true, true, true, true, true, true, true, true, true, true, true, true, true, true, true, true, false] rfl (by kernel_rfl) (by kernel_rfl) (by kernel_rfl) (fun _ _ _ h => h) (by kernel_rfl) (Stay.refl _ _) (Or.inl ⟨by rfl, fun W hW => ?_⟩) ?_
                · go_simp
                conv => arg 8; simp [Act.put]
                refine wpAnyH_takeL (i := 24) (v := .bool false) #[true, true, true, true, true, true, true, true, true, true, true, true, true, true, true, true, true, true, true, true, true, true, true, true, true] rfl (by kernel_rfl) (by kernel_rfl) (by kernel_rfl) (fun _ _ _ h => h) (by kernel_rfl) (Stay.refl _ _) (Or.inl ⟨by rfl, fun W hW => ?_⟩) ?_
                · go_simp
                conv => arg 8; simp [Act.put]
                refine wpAnyH_done (by kernel_rfl) ?_ _
                have HWF := Lib.hid (HW8.out.trans hst)
                clear hst
                go_wp2
                go_roundw
                case rel => exact ⟨i + 1, by go_num, hin, HWF.out⟩
                case measure => simp [intOf]; omega
              · obtain rfl : i = n := by omega
                have HWO := Lib.hid (show Stay (fun _ => False) w7 wr from HWR.out)
                obtain ⟨wo, hwo⟩ : ∃ wo, wo = wr := ⟨_, rfl⟩
                rw [← hwo] at HWO ⊢
                clear hwo HWR
                have HEE := Lib.hid (show ∀ e, (!Me.eqE e e) = false from fun e => by rw [Me.eqE_is]; simp)
                go_wp2
                go_loopw [17] (fun jv wr => ∃ j' : Nat, jv = .int .i64 (j' : Int) ∧ j' ≤ ks.length ∧ j' ≤ 10 ∧ Stay (fun _ => False) wo wr) (fun jv _ => ks.length - (intOf jv).toNat)
                case atStart => exact ⟨0, rfl, Nat.zero_le _, Nat.zero_le _, Stay.refl _ _⟩
                case round =>
                  obtain ⟨r, rfl, hr, hr10, hst⟩ := hrel
                  have HWS := Lib.hid (HWO.out.trans hst)
                  have HWR2 := Lib.hid hst
                  clear hst
                  by_cases hrl : r < ks.length
                  · by_cases hr9 : r < 10
                    · obtain ⟨k, hk⟩ : ∃ k, ks[r]? = some k := ⟨_, List.getElem?_eq_getElem hrl⟩
                      have HKK := Lib.hid (HKL.out k (List.mem_of_getElem? hk))
                      obtain ⟨lb, lo, rfl, _, hcc⟩ := HKS.out.at (by omega)
                      have HCK := Lib.hid (show ∀ W, Stay (fun _ => False) wr W → W.cell? ⟨lb, lo + r, none⟩ = some (.string ⟨k.toArray⟩) from fun W hW => hcc W (fun _ => False) (((HSW.out.trans HS7.out).trans HWS.out).trans hW) (fun x => x) r k hk)
                      have c0 := HCK.out wr (Stay.refl _ _)
                      have hrl' : (r : Int) < ks.length := by omega
                      clear hk hcc
                      go_wp2_with fail
                      refine (get_any wr t p q M k (HT7.out.stay0 HWS.out) HKK.out).mono ?_
                      rintro y w8 ⟨rfl, s8⟩
                      have HRG := Lib.hid (fun W (hW : EnS W (.slice (some ⟨g, o, none⟩) i cv) M) => Me.rget_any W _ M k hW)
                      generalize entOf (getL M k) = e at *
                      generalize (getL M k).isSome = s at *
                      have HW8' := Lib.hid s8
                      have HBX := Lib.hid (Box.new w8 ⟨[], [], false⟩)
                      have HA := Lib.hid (show Stay (fun _ => False) w8 (w8.alloc (.cells (enC ⟨[], [], false⟩).toArray 28)) from Stay.alloc _ _)
                      obtain ⟨bx, hbx⟩ : ∃ bx, bx = w8.heap.size := ⟨_, rfl⟩
                      rw [← hbx] at HBX
                      have HBB := Lib.hid hbx
                      obtain ⟨wa, hwa⟩ : ∃ wa, w8.alloc (.cells (enC ⟨[], [], false⟩).toArray 28) = wa := ⟨_, rfl⟩
                      rw [hwa] at HBX HA
                      have WA := Lib.hid hwa
                      clear s8 c0 hbx hwa
                      go_wp2_with (first
                        | ((with_reducible refine Me.alloc_en rfl rfl ?_); rw [WA.out, ← HBB.out])
                        | ((with_reducible refine Me.at_op (.store 28 (.tmp 18) (.tmp 142)) rfl ?_); refine Box.store HBX.out rfl (.tmp 18) (.tmp 142) rfl rfl e rfl ?_
                           intro wb hbb hsb
                           have HBX8 := Lib.hid hbb
                           have HSB := Lib.hid (show Stay (fun _ => False) wr wb from HW8'.out.trans (stay_seal ((HA.out.mono (fun _ x => x.elim)).trans hsb) (fun k hk => by have hk' : k = bx := hk; have := HBB.out; omega)))
                           have c0 := HCK.out wb HSB.out
                           clear hbb hsb))
                      refine (HRG.out wb (hv7.out.stay0 (HWS.out.trans HSB.out))).mono ?_
                      rintro y w9 ⟨rfl, s9⟩
                      have HBX9 := Lib.hid (HBX8.out.stay0 s9)
                      have HS9 := Lib.hid (HSB.out.trans s9)
                      have HBY := Lib.hid (Box.new w9 ⟨[], [], false⟩)
                      have HAY := Lib.hid (show Stay (fun _ => False) w9 (w9.alloc (.cells (enC ⟨[], [], false⟩).toArray 28)) from Stay.alloc _ _)
                      obtain ⟨bz, hbz⟩ : ∃ bz, bz = w9.heap.size := ⟨_, rfl⟩
                      rw [← hbz] at HBY
                      have HBZ := Lib.hid hbz
                      obtain ⟨wd, hwd⟩ : ∃ wd, w9.alloc (.cells (enC ⟨[], [], false⟩).toArray 28) = wd := ⟨_, rfl⟩
                      rw [hwd] at HBY HAY
                      have WD := Lib.hid hwd
                      clear s9 c0 hbz hwd HA HBX WA HBX8
                      go_wp2_with (first
                        | ((with_reducible refine Me.alloc_en rfl rfl ?_); rw [WD.out, ← HBZ.out])
                        | ((with_reducible refine Me.at_op (.store 28 (.tmp 21) (.tmp 152)) rfl ?_); refine Box.store HBY.out rfl (.tmp 21) (.tmp 152) rfl rfl e rfl ?_
                           intro we hbe hse
                           have HBE := Lib.hid hbe
                           have hs10 := stay_seal ((HAY.out.mono (fun _ x => x.elim)).trans hse) (fun k hk => by have hk' : k = bz := hk; have := HBZ.out; omega)
                           have HBX10 := Lib.hid (HBX9.out.stay0 hs10)
                           have HS10 := Lib.hid (HS9.out.trans hs10)
                           clear hbe hse hs10)
                        | ((with_reducible refine Me.at_op (.load 28 (.tmp 18)) rfl ?_); refine Me.wpList_load_run (by rfl) 28 (.tmp 18) rfl ⟨bx, 0, none⟩ rfl _ HBX10.out.run_load ?_)
                        | ((with_reducible refine Me.at_op (.load 28 (.tmp 21)) rfl ?_); refine Me.wpList_load_run (by rfl) 28 (.tmp 21) rfl ⟨bz, 0, none⟩ rfl _ HBE.out.run_load ?_)
                        | ((with_reducible refine Me.at_op (.binOp .neq 28 (.tmp 162) (.tmp 163) 28) rfl ?_); refine Me.wpList_neq_en (by rfl) (.tmp 162) (.tmp 163) rfl e e rfl rfl ?_; rw [HEE.out e]))
                      refine ⟨⟨r + 1, by go_num, hrl, hr9, HWR2.out.trans HS10.out⟩, by simp [intOf]; omega⟩
                    · skip
                      obtain ⟨n1, hn1⟩ : ∃ n1, i = n1 + 1 := ⟨i - 1, by omega⟩
                      subst hn1
                      obtain ⟨e0, he0, hk0⟩ := at_of (L := M) (i := 0) (by rw [← HNL.out]; omega)
                      obtain ⟨e1, he1, hk1⟩ := at_of (L := M) (i := n1) (by rw [← HNL.out]; omega)
                      have HK0 := Lib.hid hk0
                      have HK1 := Lib.hid (show lastK M = e1.k by unfold lastK; rw [← HNL.out, Nat.add_sub_cancel]; exact hk1)
                      go_wp2_with fail
                      refine (entries_any wr t p q M (HT7.out.stay0 HWS.out)).mono ?_
                      rintro y w11 ⟨⟨v11, rfl, ho11⟩, s11⟩
                      have HE11 := Lib.hid ho11.ens
                      have HW11 := Lib.hid (HWS.out.trans s11)
                      have HT11 := Lib.hid (HT7.out.stay0 HW11.out)
                      have HV11 := Lib.hid (hv7.out.stay0 HW11.out)
                      obtain ⟨a11, l11, c11, rfl⟩ : ∃ a l c, v11 = .slice a l c := by obtain ⟨a, c, e⟩ := ho11.form; exact ⟨a, _, c, e⟩
                      obtain ⟨_, _, e9, _, hcc⟩ := HV11.out.at (by rw [← HNL.out]; omega)
                      cases e9
                      have d0 := (hcc 0 e0 he0).1
                      have d1 := (hcc n1 e1 he1).1
                      rw [Nat.zero_mul, Nat.add_zero] at d0
                      obtain ⟨D, hDd⟩ : ∃ D : World → Prop, D = Stay (fun _ => False) w11 := ⟨_, rfl⟩
                      have HD := Lib.hid (show ∀ W, D W → Stay (fun _ => False) w11 W by intro W h; rw [hDd] at h; exact h)
                      have HDm := Lib.hid (show ∀ W, Stay (fun _ => False) w11 W → D W by intro W h; rw [hDd]; exact h)
                      have HN0 := Lib.hid (HDm.out _ (Stay.drew (w := w11)))
                      have k1 := fun i : InC D => (HD.out _ i.h).cell d0 (fun x => x)
                      have k2 := fun i : InC D => (HD.out _ i.h).cell d1 (fun x => x)
                      have H1 := Lib.hid (show ∀ W, D W → Calls Try.prog 16 #[.slice a11 l11 c11, .slice (some ⟨g, o, none⟩) (n1 + 1) cv] W fun e w' => e = .returned (.bool true) ∧ D w' from fun W hW => by
                        have h1 := Me.entries_eq W _ _ M M (HE11.out.stay0 (HD.out _ hW)) (HV11.out.stay0 (HD.out _ hW))
                        rw [decide_eq_true rfl] at h1
                        exact h1.mono fun e w' ⟨h3, h4⟩ => ⟨h3, HDm.out _ ((HD.out _ hW).trans h4)⟩)
                      have H2 := Lib.hid (show ∀ W, D W → Calls Try.prog 17 #[.pointer (some ⟨t, 0, none⟩)] W fun e w' => e = .returned (.int .i64 ((n1 + 1 : Nat) : Int)) ∧ D w' from fun W hW => by
                        have h1 := len_any W t p q M (HT11.out.stay0 (HD.out _ hW))
                        rw [← HNL.out] at h1
                        exact h1.mono fun e w' ⟨h3, h4⟩ => ⟨h3, h4 ▸ hW⟩)
                      have H3 := Lib.hid (show ∀ W, D W → Calls Try.prog 18 #[.pointer (some ⟨t, 0, none⟩)] W fun e w' => e = .returned (.string ⟨e0.k.toArray⟩) ∧ D w' from fun W hW => by
                        have h1 := first_any W t p q M (HT11.out.stay0 (HD.out _ hW))
                        rw [HK0.out] at h1
                        exact h1.mono fun e w' ⟨h3, h4⟩ => ⟨h3, h4 ▸ hW⟩)
                      have H4 := Lib.hid (show ∀ W, D W → Calls Try.prog 19 #[.pointer (some ⟨t, 0, none⟩)] W fun e w' => e = .returned (.string ⟨e1.k.toArray⟩) ∧ D w' from fun W hW => by
                        have h1 := last_any W t p q M (HT11.out.stay0 (HD.out _ hW))
                        rw [HK1.out] at h1
                        exact h1.mono fun e w' ⟨h3, h4⟩ => ⟨h3, h4 ▸ hW⟩)
                      have H5 := Lib.hid (show ∀ W, D W → Calls Try.prog 7 #[] W fun e w' => e = .returned (.bool true) ∧ D w' from fun W hW => (sure_any W).mono fun e w' ⟨h3, h4⟩ => ⟨h3, HDm.out _ ((HD.out _ hW).trans h4)⟩)
                      haveI : Nonempty (InC D) := ⟨⟨_, HN0.out⟩⟩
                      have hn1m : (n1 : Int) ≤ 40 := by omega
                      have hwn : IntKind.i64.wrap (n1 : Int) = (n1 : Int) := IntWalk.i64_in _ (by omega)
                      clear ho11 s11 hcc d0 d1 he0 he1 hk0 hk1 hDd
                      go_wp2
                      refine wp_region_class D HN0.out (by kernel_rfl) (by kernel_rfl) ?_
                      repeat (go_big_quiet_step ((first
                        | with_reducible exact calls_class H1.out
                        | with_reducible exact calls_class H2.out
                        | with_reducible exact calls_class H3.out
                        | with_reducible exact calls_class H4.out
                        | with_reducible exact calls_class H5.out)))
                      refine wpQuiet_nil ?_
                      rintro W ⟨iw, rfl⟩
                      have hst := HD.out _ iw.h
                      clear k1 k2
                      generalize iw.w = w12 at *
                      have HF := Lib.hid (((HSW.out.trans HS7.out).trans HW11.out).trans hst)
                      clear hst
                      go_wp2
                      go_ret
                      exact ⟨rfl, HF.out⟩
                  · skip
                    obtain ⟨n1, hn1⟩ : ∃ n1, i = n1 + 1 := ⟨i - 1, by omega⟩
                    subst hn1
                    obtain ⟨e0, he0, hk0⟩ := at_of (L := M) (i := 0) (by rw [← HNL.out]; omega)
                    obtain ⟨e1, he1, hk1⟩ := at_of (L := M) (i := n1) (by rw [← HNL.out]; omega)
                    have HK0 := Lib.hid hk0
                    have HK1 := Lib.hid (show lastK M = e1.k by unfold lastK; rw [← HNL.out, Nat.add_sub_cancel]; exact hk1)
                    go_wp2_with fail
                    refine (entries_any wr t p q M (HT7.out.stay0 HWS.out)).mono ?_
                    rintro y w11 ⟨⟨v11, rfl, ho11⟩, s11⟩
                    have HE11 := Lib.hid ho11.ens
                    have HW11 := Lib.hid (HWS.out.trans s11)
                    have HT11 := Lib.hid (HT7.out.stay0 HW11.out)
                    have HV11 := Lib.hid (hv7.out.stay0 HW11.out)
                    obtain ⟨a11, l11, c11, rfl⟩ : ∃ a l c, v11 = .slice a l c := by obtain ⟨a, c, e⟩ := ho11.form; exact ⟨a, _, c, e⟩
                    obtain ⟨_, _, e9, _, hcc⟩ := HV11.out.at (by rw [← HNL.out]; omega)
                    cases e9
                    have d0 := (hcc 0 e0 he0).1
                    have d1 := (hcc n1 e1 he1).1
                    rw [Nat.zero_mul, Nat.add_zero] at d0
                    obtain ⟨D, hDd⟩ : ∃ D : World → Prop, D = Stay (fun _ => False) w11 := ⟨_, rfl⟩
                    have HD := Lib.hid (show ∀ W, D W → Stay (fun _ => False) w11 W by intro W h; rw [hDd] at h; exact h)
                    have HDm := Lib.hid (show ∀ W, Stay (fun _ => False) w11 W → D W by intro W h; rw [hDd]; exact h)
                    have HN0 := Lib.hid (HDm.out _ (Stay.drew (w := w11)))
                    have k1 := fun i : InC D => (HD.out _ i.h).cell d0 (fun x => x)
                    have k2 := fun i : InC D => (HD.out _ i.h).cell d1 (fun x => x)
                    have H1 := Lib.hid (show ∀ W, D W → Calls Try.prog 16 #[.slice a11 l11 c11, .slice (some ⟨g, o, none⟩) (n1 + 1) cv] W fun e w' => e = .returned (.bool true) ∧ D w' from fun W hW => by
                      have h1 := Me.entries_eq W _ _ M M (HE11.out.stay0 (HD.out _ hW)) (HV11.out.stay0 (HD.out _ hW))
                      rw [decide_eq_true rfl] at h1
                      exact h1.mono fun e w' ⟨h3, h4⟩ => ⟨h3, HDm.out _ ((HD.out _ hW).trans h4)⟩)
                    have H2 := Lib.hid (show ∀ W, D W → Calls Try.prog 17 #[.pointer (some ⟨t, 0, none⟩)] W fun e w' => e = .returned (.int .i64 ((n1 + 1 : Nat) : Int)) ∧ D w' from fun W hW => by
                      have h1 := len_any W t p q M (HT11.out.stay0 (HD.out _ hW))
                      rw [← HNL.out] at h1
                      exact h1.mono fun e w' ⟨h3, h4⟩ => ⟨h3, h4 ▸ hW⟩)
                    have H3 := Lib.hid (show ∀ W, D W → Calls Try.prog 18 #[.pointer (some ⟨t, 0, none⟩)] W fun e w' => e = .returned (.string ⟨e0.k.toArray⟩) ∧ D w' from fun W hW => by
                      have h1 := first_any W t p q M (HT11.out.stay0 (HD.out _ hW))
                      rw [HK0.out] at h1
                      exact h1.mono fun e w' ⟨h3, h4⟩ => ⟨h3, h4 ▸ hW⟩)
                    have H4 := Lib.hid (show ∀ W, D W → Calls Try.prog 19 #[.pointer (some ⟨t, 0, none⟩)] W fun e w' => e = .returned (.string ⟨e1.k.toArray⟩) ∧ D w' from fun W hW => by
                      have h1 := last_any W t p q M (HT11.out.stay0 (HD.out _ hW))
                      rw [HK1.out] at h1
                      exact h1.mono fun e w' ⟨h3, h4⟩ => ⟨h3, h4 ▸ hW⟩)
                    have H5 := Lib.hid (show ∀ W, D W → Calls Try.prog 7 #[] W fun e w' => e = .returned (.bool true) ∧ D w' from fun W hW => (sure_any W).mono fun e w' ⟨h3, h4⟩ => ⟨h3, HDm.out _ ((HD.out _ hW).trans h4)⟩)
                    haveI : Nonempty (InC D) := ⟨⟨_, HN0.out⟩⟩
                    have hn1m : (n1 : Int) ≤ 40 := by omega
                    have hwn : IntKind.i64.wrap (n1 : Int) = (n1 : Int) := IntWalk.i64_in _ (by omega)
                    clear ho11 s11 hcc d0 d1 he0 he1 hk0 hk1 hDd
                    go_wp2
                    refine wp_region_class D HN0.out (by kernel_rfl) (by kernel_rfl) ?_
                    repeat (go_big_quiet_step ((first
                      | with_reducible exact calls_class H1.out
                      | with_reducible exact calls_class H2.out
                      | with_reducible exact calls_class H3.out
                      | with_reducible exact calls_class H4.out
                      | with_reducible exact calls_class H5.out)))
                    refine wpQuiet_nil ?_
                    rintro W ⟨iw, rfl⟩
                    have hst := HD.out _ iw.h
                    clear k1 k2
                    generalize iw.w = w12 at *
                    have HF := Lib.hid (((HSW.out.trans HS7.out).trans HW11.out).trans hst)
                    clear hst
                    go_wp2
                    go_ret
                    exact ⟨rfl, HF.out⟩
    · skip
      have hml : (putsL L j).length ≤ 40 := by have := Me.putsL_len L j; omega
      obtain ⟨M, hM⟩ : ∃ M, M = putsL L j := ⟨_, rfl⟩
      have hMs : Sorted M := hM ▸ Me.putsL_sorted L j
      have hMn : ∀ e ∈ M, norm e = e := hM ▸ norm_puts L j
      have hMh : Short M := hM ▸ Me.short_puts HSH.out j
      have hMz : sizeL M ≤ M.length * 281474976702464 := Me.short_size hMh
      rw [← hM] at hv HM hml
      clear hM
      obtain ⟨n, hn⟩ : ∃ n, n = M.length := ⟨_, rfl⟩
      have HNL := Lib.hid hn
      have HMS := Lib.hid hMs
      have HMN := Lib.hid hMn
      have HMH := Lib.hid hMh
      obtain ⟨av, cv, rfl⟩ := hv.out.form
      rw [← hn] at hv hml hMz ⊢
      have hnm : (n : Int) ≤ 40 := by omega
      have HSZ := Lib.hid (show Calls Try.prog 6 #[.slice av n cv] wr fun e w' => e = .returned (.int .i64 (sizeL M : Int)) ∧ Stay (fun _ => False) wr w' from Me.rsize_any wr _ M hv.out (by omega))
      clear hn hMs hMn hMh
      by_cases h0 : n = 0
      · have hn0 : ((n : Int) == 0) = true := by simp [h0]
        go_wp2_with fail
        refine (sure_any wr).mono ?_
        rintro e w3 ⟨rfl, s3⟩
        have HF := Lib.hid (HS.out.trans s3)
        clear s3
        go_wp2
        go_ret
        exact ⟨rfl, HSW.out.trans HF.out⟩
      · have hn0 : ((n : Int) == 0) = false := beq_eq_false_iff_ne.2 (by omega)
        go_wp2_with fail
        refine HSZ.out.mono ?_
        rintro e w3 ⟨rfl, s3⟩
        have HS3 := Lib.hid (HS.out.trans s3)
        have hv3 := Lib.hid (hv.out.stay0 s3)
        have HB3 := Lib.hid (HW0.out.stay0 HS3.out)
        clear s3
        obtain ⟨sz, hsz⟩ : ∃ sz, sz = sizeL M := ⟨_, rfl⟩
        have HZ := Lib.hid hsz
        rw [← hsz]
        clear hsz
        by_cases hbig : 100000 < sz
        · go_wp2_with fail
          refine (sure_any w3).mono ?_
          rintro e w4 ⟨rfl, s4⟩
          have HF := Lib.hid (HS3.out.trans s4)
          clear s4
          go_wp2
          go_ret
          exact ⟨rfl, HSW.out.trans HF.out⟩
        · obtain ⟨p, hp, hp1, hp9⟩ : ∃ k : Nat, wrap64 (1 + wrap64 ((IntKind.u64.wrap x0).tmod 9)) = (k : Int) ∧ 1 ≤ k ∧ k ≤ 9 := small_mod x0 9 (by omega) (by omega)
          obtain ⟨q, hq, hq1, hq16⟩ : ∃ k : Nat, wrap64 (1 + wrap64 ((IntKind.u64.wrap x1).tmod 16)) = (k : Int) ∧ 1 ≤ k ∧ k ≤ 16 := small_mod x1 16 (by omega) (by omega)
          have HPP := Lib.hid hp
          have HQQ := Lib.hid hq
          have HZ0 := Lib.hid HB3.out.c0
          have HZ1 := Lib.hid HB3.out.c1
          have hqn : q * M.length ≤ 16 * 40 := Nat.mul_le_mul hq16 (by rw [← HNL.out]; exact hml)
          have hG : Good M p q := ⟨hp1, hq1, by have := HNL.out; omega, by have := HNL.out; omega, HMS.out, HMN.out, by have := HZ.out; omega, by omega⟩
          have hTL : (tabB M p q).length ≤ 1048576 := by
            have h1 := length_tabB (L := M) (p := p) (q := q) hp1 (by omega)
            have h2 := HNL.out
            have h3 := HZ.out
            omega
          have HG := Lib.hid hG
          have HTL := Lib.hid hTL
          clear hp hq hG hTL hqn
          go_wp2
          refine wp_region_held (S := Stay (fun _ => False) w3.drew) (by kernel_rfl) ?_
          change wpAnyH _ _ _ _ _ _ _ _ (World.drew _)
          have hst : Stay (fun _ => False) w3 w3.drew := Stay.drew
          refine wpAnyH_takeL (i := 0) (v := .slice av n cv) #[true, false, false, false, false, false, false, false, false, false, false, false, false, false, false, false, false, false, false, false] rfl (by kernel_rfl) (by kernel_rfl) (by kernel_rfl) (fun _ _ _ h => h) (by kernel_rfl) (Stay.refl _ _) (Or.inl ⟨by rfl, fun W hW => ?_⟩) ?_
          · go_simp
          conv => arg 8; simp [Act.put]
          refine wpAnyH_takeL (i := 2) (v := .pointer (some ⟨b, 0, none⟩)) #[true, false, true, false, false, false, false, false, false, false, false, false, false, false, false, false, false, false, false, false] rfl (by kernel_rfl) (by kernel_rfl) (by kernel_rfl) (fun _ _ _ h => h) (by kernel_rfl) (Stay.refl _ _) (Or.inl ⟨by rfl, fun W hW => ?_⟩) ?_
          · go_simp
          conv => arg 8; simp [Act.put]
          refine wpAnyH_takeL (i := 3) (v := .int .i64 x0) #[true, false, true, true, false, false, false, false, false, false, false, false, false, false, false, false, false, false, false, false] rfl (by kernel_rfl) (by kernel_rfl) (by kernel_rfl) (fun _ _ _ h => h) (by kernel_rfl) (Stay.refl _ _) (Or.inl ⟨by rfl, fun W hW => ?_⟩) ?_
          · have kc := (hst.trans hW).cell HZ0.out (fun x => x)
            go_simp
          conv => arg 8; simp [Act.put]
          refine wpAnyH_takeL (i := 4) (v := .int .u64 (IntKind.u64.wrap x0)) #[true, false, true, true, true, false, false, false, false, false, false, false, false, false, false, false, false, false, false, false] rfl (by kernel_rfl) (by kernel_rfl) (by kernel_rfl) (fun _ _ _ h => h) (by kernel_rfl) (Stay.refl _ _) (Or.inl ⟨by rfl, fun W hW => ?_⟩) ?_
          · go_simp
          conv => arg 8; simp [Act.put]
          refine wpAnyH_takeL (i := 5) (v := .int .u64 ((IntKind.u64.wrap x0).tmod 9)) #[true, false, true, true, true, true, false, false, false, false, false, false, false, false, false, false, false, false, false, false] rfl (by kernel_rfl) (by kernel_rfl) (by kernel_rfl) (fun _ _ _ h => h) (by kernel_rfl) (Stay.refl _ _) (Or.inl ⟨by rfl, fun W hW => ?_⟩) ?_
          · go_simp
          conv => arg 8; simp [Act.put]
          refine wpAnyH_takeL (i := 6) (v := .int .i64 (wrap64 ((IntKind.u64.wrap x0).tmod 9))) #[true, false, true, true, true, true, true, false, false, false, false, false, false, false, false, false, false, false, false, false] rfl (by kernel_rfl) (by kernel_rfl) (by kernel_rfl) (fun _ _ _ h => h) (by kernel_rfl) (Stay.refl _ _) (Or.inl ⟨by rfl, fun W hW => ?_⟩) ?_
          · go_simp
            exact Bo.i64_wrap _
          conv => arg 8; simp [Act.put]
          refine wpAnyH_takeL (i := 7) (v := .int .i64 (p : Int)) #[true, false, true, true, true, true, true, true, false, false, false, false, false, false, false, false, false, false, false, false] rfl (by kernel_rfl) (by kernel_rfl) (by kernel_rfl) (fun _ _ _ h => h) (by kernel_rfl) (Stay.refl _ _) (Or.inl ⟨by rfl, fun W hW => ?_⟩) ?_
          · go_simp
            exact (Bo.i64_wrap _).trans HPP.out
          conv => arg 8; simp [Act.put]
          refine wpAnyH_takeL (i := 8) (v := .pointer (some ⟨b, 1, none⟩)) #[true, false, true, true, true, true, true, true, true, false, false, false, false, false, false, false, false, false, false, false] rfl (by kernel_rfl) (by kernel_rfl) (by kernel_rfl) (fun _ _ _ h => h) (by kernel_rfl) (Stay.refl _ _) (Or.inl ⟨by rfl, fun W hW => ?_⟩) ?_
          · go_simp
          conv => arg 8; simp [Act.put]
          refine wpAnyH_takeL (i := 9) (v := .int .i64 x1) #[true, false, true, true, true, true, true, true, true, true, false, false, false, false, false, false, false, false, false, false] rfl (by kernel_rfl) (by kernel_rfl) (by kernel_rfl) (fun _ _ _ h => h) (by kernel_rfl) (Stay.refl _ _) (Or.inl ⟨by rfl, fun W hW => ?_⟩) ?_
          · have kc := (hst.trans hW).cell HZ1.out (fun x => x)
            go_simp
          conv => arg 8; simp [Act.put]
          refine wpAnyH_takeL (i := 10) (v := .int .u64 (IntKind.u64.wrap x1)) #[true, false, true, true, true, true, true, true, true, true, true, false, false, false, false, false, false, false, false, false] rfl (by kernel_rfl) (by kernel_rfl) (by kernel_rfl) (fun _ _ _ h => h) (by kernel_rfl) (Stay.refl _ _) (Or.inl ⟨by rfl, fun W hW => ?_⟩) ?_
          · go_simp
          conv => arg 8; simp [Act.put]
          refine wpAnyH_takeL (i := 11) (v := .int .u64 ((IntKind.u64.wrap x1).tmod 16)) #[true, false, true, true, true, true, true, true, true, true, true, true, false, false, false, false, false, false, false, false] rfl (by kernel_rfl) (by kernel_rfl) (by kernel_rfl) (fun _ _ _ h => h) (by kernel_rfl) (Stay.refl _ _) (Or.inl ⟨by rfl, fun W hW => ?_⟩) ?_
          · go_simp
          conv => arg 8; simp [Act.put]
          refine wpAnyH_takeL (i := 12) (v := .int .i64 (wrap64 ((IntKind.u64.wrap x1).tmod 16))) #[true, false, true, true, true, true, true, true, true, true, true, true, true, false, false, false, false, false, false, false] rfl (by kernel_rfl) (by kernel_rfl) (by kernel_rfl) (fun _ _ _ h => h) (by kernel_rfl) (Stay.refl _ _) (Or.inl ⟨by rfl, fun W hW => ?_⟩) ?_
          · go_simp
            exact Bo.i64_wrap _
          conv => arg 8; simp [Act.put]
          refine wpAnyH_takeL (i := 13) (v := .int .i64 (q : Int)) #[true, false, true, true, true, true, true, true, true, true, true, true, true, true, false, false, false, false, false, false] rfl (by kernel_rfl) (by kernel_rfl) (by kernel_rfl) (fun _ _ _ h => h) (by kernel_rfl) (Stay.refl _ _) (Or.inl ⟨by rfl, fun W hW => ?_⟩) ?_
          · go_simp
            exact (Bo.i64_wrap _).trans HQQ.out
          conv => arg 8; simp [Act.put]
          refine wpAnyH_one #[true, true, true, true, true, true, true, true, true, true, true, true, true, true, false, false, false, false, false, false] (i := 1) rfl (by kernel_rfl) (by kernel_rfl) (fun K hK => ?_)
          go_simp
          go_wp2_with (go_at_call 9; refine (Me.own_any w3.drew _ M (hv3.out.stay0 hst) (by have := HNL.out; omega)).mono ?_; rintro e z1 ⟨v4, rfl, ho4, s⟩; have HE4 := Lib.hid ho4.ens; clear ho4)
          replace hst := hst.trans s
          refine hK _ _ s ?_
          clear hK
          conv => arg 8; simp [Act.put]
          refine wpAnyH_narrow (S' := Stay (fun _ => False) z1) (fun _ h => s.trans h) _ _ _ _ ?_
          clear s
          refine wpAnyH_one #[true, true, true, true, true, true, true, true, true, true, true, true, true, true, true, false, false, false, false, false] (i := 14) rfl (by kernel_rfl) (by kernel_rfl) (fun K hK => ?_)
          go_simp
          go_wp2_with (go_at_call 8; refine (build_ok z1 v4 M p q HE4.out HMS.out hp1 (by omega) hq1 (by omega) HG.out.n1 HG.out.n2 (by have := HG.out.sz; omega) HTL.out).mono ?_; rintro e z2 ⟨⟨v5, rfl, ho5⟩, s⟩; have HSL5 := Lib.hid ho5.slc; obtain ⟨a5, l5, c5, rfl⟩ : ∃ a l c, v5 = .slice a l c := (by obtain ⟨a, c, e⟩ := ho5.form; exact ⟨a, _, c, e⟩); clear ho5)
          replace hst := hst.trans s
          refine hK _ _ s ?_
          clear hK
          conv => arg 8; simp [Act.put]
          refine wpAnyH_narrow (S' := Stay (fun _ => False) z2) (fun _ h => s.trans h) _ _ _ _ ?_
          clear s
          refine wpAnyH_takeL (i := 15) (v := .tuple #[.slice a5 l5 c5, .nilIface]) #[true, true, true, true, true, true, true, true, true, true, true, true, true, true, true, true, false, false, false, false] rfl (by kernel_rfl) (by kernel_rfl) (by kernel_rfl) (fun _ _ _ h => h) (by kernel_rfl) (Stay.refl _ _) (Or.inl ⟨by rfl, fun W hW => ?_⟩) ?_
          · go_simp
          conv => arg 8; simp [Act.put]
          refine wpAnyH_takeL (i := 16) (v := .slice a5 l5 c5) #[true, true, true, true, true, true, true, true, true, true, true, true, true, true, true, true, true, false, false, false] rfl (by kernel_rfl) (by kernel_rfl) (by kernel_rfl) (fun _ _ _ h => h) (by kernel_rfl) (Stay.refl _ _) (Or.inl ⟨by rfl, fun W hW => ?_⟩) ?_
          · go_simp
          conv => arg 8; simp [Act.put]
          refine wpAnyH_takeL (i := 17) (v := .nilIface) #[true, true, true, true, true, true, true, true, true, true, true, true, true, true, true, true, true, true, false, false] rfl (by kernel_rfl) (by kernel_rfl) (by kernel_rfl) (fun _ _ _ h => h) (by kernel_rfl) (Stay.refl _ _) (Or.inl ⟨by rfl, fun W hW => ?_⟩) ?_
          · go_simp
          conv => arg 8; simp [Act.put]
          refine wpAnyH_takeL (i := 18) (v := .slice a5 l5 c5) #[true, true, true, true, true, true, true, true, true, true, true, true, true, true, true, true, true, true, true, false] rfl (by kernel_rfl) (by kernel_rfl) (by kernel_rfl) (fun _ _ _ h => h) (by kernel_rfl) (Stay.refl _ _) (Or.inl ⟨by rfl, fun W hW => ?_⟩) ?_
          · go_simp
          conv => arg 8; simp [Act.put]
          refine wpAnyH_takeL (i := 19) (v := .nilIface) #[true, true, true, true, true, true, true, true, true, true, true, true, true, true, true, true, true, true, true, true] rfl (by kernel_rfl) (by kernel_rfl) (by kernel_rfl) (fun _ _ _ h => h) (by kernel_rfl) (Stay.refl _ _) (Or.inl ⟨by rfl, fun W hW => ?_⟩) ?_
          · go_simp
          conv => arg 8; simp [Act.put]
          refine wpAnyH_done (by kernel_rfl) ?_ _
          have HS6 := Lib.hid (HS3.out.trans hst)
          have hv6 := Lib.hid (hv3.out.stay0 hst)
          have HOP := Lib.hid (open_any z2 _ M p q HSL5.out HG.out)
          clear hst HE4 HSL5 HSZ
          go_wp2_with fail
          refine HOP.out.mono ?_
          rintro e w7 ⟨⟨t, rfl, _, ht⟩, s7⟩
          have HS7 := Lib.hid (HS6.out.trans s7)
          have hv7 := Lib.hid (hv6.out.stay0 s7)
          have HT7 := Lib.hid ht
          clear ht s7 HOP
          obtain ⟨g, o, rfl, _, _⟩ := hv7.out.at (by have := HNL.out; omega)
          go_wp2
          go_loopw [13] (fun i wr => ∃ i' : Nat, i = .int .i64 (i' : Int) ∧ i' ≤ n ∧ Stay (fun _ => False) w7 wr) (fun i _ => n - (intOf i).toNat)
          case atStart => exact ⟨0, rfl, Nat.zero_le _, Stay.refl _ _⟩
          case round =>
            obtain ⟨i, rfl, hi, hst⟩ := hrel
            have HWR := Lib.hid hst
            clear hst
            by_cases hin : i < n
            · obtain ⟨e, he⟩ : ∃ e, M[i]? = some e := ⟨_, List.getElem?_eq_getElem (by rw [← HNL.out]; exact hin)⟩
              have HEI := Lib.hid he
              have hem : e ∈ M := List.mem_of_getElem? he
              have HEM := Lib.hid hem
              have HEK := Lib.hid (HMH.out e hem).1
              have HGE := Lib.hid ((Me.getL_mem HMS.out e).1 hem)
              obtain ⟨_, _, e9, _, hcc⟩ := (hv7.out.stay0 HWR.out).at (by have := HNL.out; omega)
              cases e9
              have c0 := (hcc i e he).1
              have HC0' := Lib.hid c0
              have hin' : (i : Int) < n := by omega
              clear he hem hcc
              go_wp2_with fail
              refine (get_any wr t p q M e.k (HT7.out.stay0 HWR.out) HEK.out).mono ?_
              rintro y w8 ⟨rfl, s8⟩
              rw [HGE.out]
              simp only [entOf, Option.isSome_some]
              have HW8' := Lib.hid (HWR.out.trans s8)
              have HC8 := Lib.hid (s8.cell HC0'.out (fun x => x))
              have HBX := Lib.hid (Box.new w8 ⟨[], [], false⟩)
              have HA := Lib.hid (show Stay (fun _ => False) w8 (w8.alloc (.cells (enC ⟨[], [], false⟩).toArray 28)) from Stay.alloc _ _)
              obtain ⟨bx, hbx⟩ : ∃ bx, bx = w8.heap.size := ⟨_, rfl⟩
              rw [← hbx] at HBX
              have HBB := Lib.hid hbx
              obtain ⟨wa, hwa⟩ : ∃ wa, w8.alloc (.cells (enC ⟨[], [], false⟩).toArray 28) = wa := ⟨_, rfl⟩
              rw [hwa] at HBX HA
              have WA := Lib.hid hwa
              clear s8 c0 hbx hwa
              obtain ⟨w9, hw9⟩ : ∃ w9, w9 = w8 := ⟨_, rfl⟩
              clear hw9
              go_wp2_with (first
                | (with_reducible refine Me.alloc_en rfl rfl ?_; rw [WA.out, ← HBB.out])
                | ((with_reducible refine Me.at_op (.store 28 (.tmp 14) (.tmp 97)) rfl ?_); refine Box.store HBX.out rfl (.tmp 14) (.tmp 97) rfl rfl e rfl ?_
                   intro wb hbb hsb
                   have HBX8 := Lib.hid hbb
                   have HSB := Lib.hid (show Stay (fun _ => False) w8 wb from stay_seal ((HA.out.mono (fun _ x => x.elim)).trans hsb) (fun k hk => by have hk' : k = bx := hk; have := HBB.out; omega))
                   clear hbb hsb))
              have HW8 := Lib.hid (HW8'.out.trans HSB.out)
              have HV8 := Lib.hid (hv7.out.stay0 HW8.out)
              have HT8 := Lib.hid (HT7.out.stay0 HW8.out)
              have HC0 := Lib.hid (HSB.out.cell HC8.out (fun x => x))
              have HEE := Lib.hid (show (!Me.eqE e e) = false by rw [Me.eqE_is]; simp)
              obtain ⟨wc, hwc⟩ : ∃ wc, wc = wb := ⟨_, rfl⟩
              rw [← hwc] at HBX8 HSB HW8 HV8 HT8 HC0 ⊢
              clear hwc HA HBX WA
              go_wp2
              refine wp_region_held (S := Stay (fun _ => False) wc.drew) (by kernel_rfl) ?_
              change wpAnyH _ _ _ _ _ _ _ _ (World.drew _)
              have hst : Stay (fun _ => False) wc wc.drew := Stay.drew
              refine wpAnyH_takeL (i := 0) (v := .nilIface) #[true, false, false, false, false, false, false, false, false, false, false, false, false, false, false, false, false, false, false, false, false, false, false, false, false] rfl (by kernel_rfl) (by kernel_rfl) (by kernel_rfl) (fun _ _ _ h => h) (by kernel_rfl) (Stay.refl _ _) (Or.inl ⟨by rfl, fun W hW => ?_⟩) ?_
              · go_simp
              conv => arg 8; simp [Act.put]
              refine wpAnyH_takeL (i := 1) (v := .bool false) #[true, true, false, false, false, false, false, false, false, false, false, false, false, false, false, false, false, false, false, false, false, false, false, false, false] rfl (by kernel_rfl) (by kernel_rfl) (by kernel_rfl) (fun _ _ _ h => h) (by kernel_rfl) (Stay.refl _ _) (Or.inl ⟨by rfl, fun W hW => ?_⟩) ?_
              · go_simp
              conv => arg 8; simp [Act.put]
              refine wpAnyH_takeL (i := 2) (v := .bool false) #[true, true, true, false, false, false, false, false, false, false, false, false, false, false, false, false, false, false, false, false, false, false, false, false, false] rfl (by kernel_rfl) (by kernel_rfl) (by kernel_rfl) (fun _ _ _ h => h) (by kernel_rfl) (Stay.refl _ _) (Or.inl ⟨by rfl, fun W hW => ?_⟩) ?_
              · go_simp
              conv => arg 8; simp [Act.put]
              refine wpAnyH_takeL (i := 3) (v := .bool true) #[true, true, true, true, false, false, false, false, false, false, false, false, false, false, false, false, false, false, false, false, false, false, false, false, false] rfl (by kernel_rfl) (by kernel_rfl) (by kernel_rfl) (fun _ _ _ h => h) (by kernel_rfl) (Stay.refl _ _) (Or.inl ⟨by rfl, fun W hW => ?_⟩) ?_
              · go_simp
              conv => arg 8; simp [Act.put]
              refine wpAnyH_takeL (i := 4) (v := .bool false) #[true, true, true, true, true, false, false, false, false, false, false, false, false, false, false, false, false, false, false, false, false, false, false, false, false] rfl (by kernel_rfl) (by kernel_rfl) (by kernel_rfl) (fun _ _ _ h => h) (by kernel_rfl) (Stay.refl _ _) (Or.inl ⟨by rfl, fun W hW => ?_⟩) ?_
              · go_simp
              conv => arg 8; simp [Act.put]
              refine wpAnyH_takeL (i := 5) (v := .bool false) #[true, true, true, true, true, true, false, false, false, false, false, false, false, false, false, false, false, false, false, false, false, false, false, false, false] rfl (by kernel_rfl) (by kernel_rfl) (by kernel_rfl) (fun _ _ _ h => h) (by kernel_rfl) (Stay.refl _ _) (Or.inl ⟨by rfl, fun W hW => ?_⟩) ?_
              · go_simp
              conv => arg 8; simp [Act.put]
              refine wpAnyH_takeL (i := 6) (v := .bool false) #[true, true, true, true, true, true, true, false, false, false, false, false, false, false, false, false, false, false, false, false, false, false, false, false, false] rfl (by kernel_rfl) (by kernel_rfl) (by kernel_rfl) (fun _ _ _ h => h) (by kernel_rfl) (Stay.refl _ _) (Or.inl ⟨by rfl, fun W hW => ?_⟩) ?_
              · go_simp
              conv => arg 8; simp [Act.put]
              refine wpAnyH_takeL (i := 8) (v := .slice (some ⟨g, o, none⟩) n cv) #[true, true, true, true, true, true, true, false, true, false, false, false, false, false, false, false, false, false, false, false, false, false, false, false, false] rfl (by kernel_rfl) (by kernel_rfl) (by kernel_rfl) (fun _ _ _ h => h) (by kernel_rfl) (Stay.refl _ _) (Or.inl ⟨by rfl, fun W hW => ?_⟩) ?_
              · go_simp
              conv => arg 8; simp [Act.put]
              refine wpAnyH_takeL (i := 9) (v := .int .i64 (i : Int)) #[true, true, true, true, true, true, true, false, true, true, false, false, false, false, false, false, false, false, false, false, false, false, false, false, false] rfl (by kernel_rfl) (by kernel_rfl) (by kernel_rfl) (fun _ _ _ h => h) (by kernel_rfl) (Stay.refl _ _) (Or.inl ⟨by rfl, fun W hW => ?_⟩) ?_
              · go_simp
              conv => arg 8; simp [Act.put]
              refine wpAnyH_takeL (i := 10) (v := .pointer (some ⟨g, o + i * 3, none⟩)) #[true, true, true, true, true, true, true, false, true, true, true, false, false, false, false, false, false, false, false, false, false, false, false, false, false] rfl (by kernel_rfl) (by kernel_rfl) (by kernel_rfl) (fun _ _ _ h => h) (by kernel_rfl) (Stay.refl _ _) (Or.inl ⟨by rfl, fun W hW => ?_⟩) ?_
              · go_simp
              conv => arg 8; simp [Act.put]
              refine wpAnyH_takeL (i := 7) #[true, true, true, true, true, true, true, true, true, true, true, false, false, false, false, false, false, false, false, false, false, false, false, false, false] rfl (by kernel_rfl) (by kernel_rfl) (by kernel_rfl) (fun _ _ _ h => h) (by kernel_rfl) (Stay.refl _ _) (yieldsIf_load rfl 28 (.tmp 14) rfl ⟨bx, 0, none⟩ rfl _ (fun W hW => (HBX8.out.stay0 (hst.trans hW)).run_load)) ?_
              conv => arg 8; simp [Act.put]
              refine wpAnyH_takeL (i := 11) #[true, true, true, true, true, true, true, true, true, true, true, true, false, false, false, false, false, false, false, false, false, false, false, false, false] rfl (by kernel_rfl) (by kernel_rfl) (by kernel_rfl) (fun _ _ _ h => h) (by kernel_rfl) (Stay.refl _ _) (yieldsIf_load rfl 28 (.tmp 110) rfl ⟨g, o + i * 3, none⟩ rfl _ (fun W hW => (HV8.out.stay0 (hst.trans hW)).load HEI.out)) ?_
              conv => arg 8; simp [Act.put]
              refine wpAnyH_takeL (i := 12) #[true, true, true, true, true, true, true, true, true, true, true, true, true, false, false, false, false, false, false, false, false, false, false, false, false] rfl (by kernel_rfl) (by kernel_rfl) (by kernel_rfl) (fun _ _ _ h => h) (by kernel_rfl) (Stay.refl _ _) (yieldsIf_neq_en rfl (.tmp 107) (.tmp 111) rfl e e rfl rfl) ?_
              conv => arg 8; simp [Act.put]
              rw [HEE.out]
              refine wpAnyH_takeL (i := 13) (v := .bool false) #[true, true, true, true, true, true, true, true, true, true, true, true, true, true, false, false, false, false, false, false, false, false, false, false, false] rfl (by kernel_rfl) (by kernel_rfl) (by kernel_rfl) (fun _ _ _ h => h) (by kernel_rfl) (Stay.refl _ _) (Or.inl ⟨by rfl, fun W hW => ?_⟩) ?_
              · go_simp
              conv => arg 8; simp [Act.put]
              refine wpAnyH_takeL (i := 14) (v := .bool false) #[true, true, true, true, true, true, true, true, true, true, true, true, true, true, true, false, false, false, false, false, false, false, false, false, false] rfl (by kernel_rfl) (by kernel_rfl) (by kernel_rfl) (fun _ _ _ h => h) (by kernel_rfl) (Stay.refl _ _) (Or.inl ⟨by rfl, fun W hW => ?_⟩) ?_
              · go_simp
              conv => arg 8; simp [Act.put]
              refine wpAnyH_takeL (i := 15) (v := .pointer (some ⟨t, 0, none⟩)) #[true, true, true, true, true, true, true, true, true, true, true, true, true, true, true, true, false, false, false, false, false, false, false, false, false] rfl (by kernel_rfl) (by kernel_rfl) (by kernel_rfl) (fun _ _ _ h => h) (by kernel_rfl) (Stay.refl _ _) (Or.inl ⟨by rfl, fun W hW => ?_⟩) ?_
              · go_simp
              conv => arg 8; simp [Act.put]
              refine wpAnyH_takeL (i := 17) (v := .slice (some ⟨g, o, none⟩) n cv) #[true, true, true, true, true, true, true, true, true, true, true, true, true, true, true, true, false, true, false, false, false, false, false, false, false] rfl (by kernel_rfl) (by kernel_rfl) (by kernel_rfl) (fun _ _ _ h => h) (by kernel_rfl) (Stay.refl _ _) (Or.inl ⟨by rfl, fun W hW => ?_⟩) ?_
              · go_simp
              conv => arg 8; simp [Act.put]
              refine wpAnyH_takeL (i := 18) (v := .int .i64 (i : Int)) #[true, true, true, true, true, true, true, true, true, true, true, true, true, true, true, true, false, true, true, false, false, false, false, false, false] rfl (by kernel_rfl) (by kernel_rfl) (by kernel_rfl) (fun _ _ _ h => h) (by kernel_rfl) (Stay.refl _ _) (Or.inl ⟨by rfl, fun W hW => ?_⟩) ?_
              · go_simp
              conv => arg 8; simp [Act.put]
              refine wpAnyH_takeL (i := 19) (v := .pointer (some ⟨g, o + i * 3, none⟩)) #[true, true, true, true, true, true, true, true, true, true, true, true, true, true, true, true, false, true, true, true, false, false, false, false, false] rfl (by kernel_rfl) (by kernel_rfl) (by kernel_rfl) (fun _ _ _ h => h) (by kernel_rfl) (Stay.refl _ _) (Or.inl ⟨by rfl, fun W hW => ?_⟩) ?_
              · go_simp
              conv => arg 8; simp [Act.put]
              refine wpAnyH_takeL (i := 20) (v := .pointer (some ⟨g, o + i * 3, none⟩)) #[true, true, true, true, true, true, true, true, true, true, true, true, true, true, true, true, false, true, true, true, true, false, false, false, false] rfl (by kernel_rfl) (by kernel_rfl) (by kernel_rfl) (fun _ _ _ h => h) (by kernel_rfl) (Stay.refl _ _) (Or.inl ⟨by rfl, fun W hW => ?_⟩) ?_
              · go_simp
              conv => arg 8; simp [Act.put]
              refine wpAnyH_takeL (i := 21) (v := .string ⟨e.k.toArray⟩) #[true, true, true, true, true, true, true, true, true, true, true, true, true, true, true, true, false, true, true, true, true, true, false, false, false] rfl (by kernel_rfl) (by kernel_rfl) (by kernel_rfl) (fun _ _ _ h => h) (by kernel_rfl) (Stay.refl _ _) (Or.inl ⟨by rfl, fun W hW => ?_⟩) ?_
              · have kc := (hst.trans hW).cell HC0.out (fun x => x)
                go_simp
              conv => arg 8; simp [Act.put]
              refine wpAnyH_one #[true, true, true, true, true, true, true, true, true, true, true, true, true, true, true, true, true, true, true, true, true, true, false, false, false] (i := 16) rfl (by kernel_rfl) (by kernel_rfl) (fun K hK => ?_)
              go_simp
              go_wp2_with (go_at_call 12; refine (filter_any wc.drew t p q M (HT8.out.stay0 hst) HG.out.qn).mono ?_; rintro e z1 ⟨⟨pf, gf, rfl, hf⟩, s⟩; have HF := Lib.hid hf; clear hf)
              replace hst := hst.trans s
              refine hK _ _ s ?_
              clear hK
              conv => arg 8; simp [Act.put]
              refine wpAnyH_narrow (S' := Stay (fun _ => False) z1) (fun _ h => s.trans h) _ _ _ _ ?_
              clear s
              refine wpAnyH_one #[true, true, true, true, true, true, true, true, true, true, true, true, true, true, true, true, true, true, true, true, true, true, true, false, false] (i := 22) rfl (by kernel_rfl) (by kernel_rfl) (fun K hK => ?_)
              go_simp
              go_wp2_with (go_at_call 13; refine (may_in z1 pf gf q M e HF.out hq1 HEM.out HEK.out).mono ?_; rintro e z2 ⟨rfl, s⟩)
              replace hst := hst.trans s
              refine hK _ _ s ?_
              clear hK
              conv => arg 8; simp [Act.put]
              refine wpAnyH_narrow (S' := Stay (fun _ => False) z2) (fun _ h => s.trans h) _ _ _ _ ?_
              clear s
              refine wpAnyH_takeL (i := 23) (v := .bool false) #[true, true, true, true, true, true, true, true, true, true, true, true, true, true, true, true, true, true, true, true, true, true, true, true, false] rfl (by kernel_rfl) (by kernel_rfl) (by kernel_rfl) (fun _ _ _ h => h) (by kernel_rfl) (Stay.refl _ _) (Or.inl ⟨by rfl, fun W hW => ?_⟩) ?_
              · go_simp
              conv => arg 8; simp [Act.put]
              refine wpAnyH_takeL (i := 24) (v := .bool false) #[true, true, true, true, true, true, true, true, true, true, true, true, true, true, true, true, true, true, true, true, true, true, true, true, true] rfl (by kernel_rfl) (by kernel_rfl) (by kernel_rfl) (fun _ _ _ h => h) (by kernel_rfl) (Stay.refl _ _) (Or.inl ⟨by rfl, fun W hW => ?_⟩) ?_
              · go_simp
              conv => arg 8; simp [Act.put]
              refine wpAnyH_done (by kernel_rfl) ?_ _
              have HWF := Lib.hid (HW8.out.trans hst)
              clear hst
              go_wp2
              go_roundw
              case rel => exact ⟨i + 1, by go_num, hin, HWF.out⟩
              case measure => simp [intOf]; omega
            · obtain rfl : i = n := by omega
              have HWO := Lib.hid (show Stay (fun _ => False) w7 wr from HWR.out)
              obtain ⟨wo, hwo⟩ : ∃ wo, wo = wr := ⟨_, rfl⟩
              rw [← hwo] at HWO ⊢
              clear hwo HWR
              have HEE := Lib.hid (show ∀ e, (!Me.eqE e e) = false from fun e => by rw [Me.eqE_is]; simp)
              go_wp2
              go_loopw [17] (fun jv wr => ∃ j' : Nat, jv = .int .i64 (j' : Int) ∧ j' ≤ ks.length ∧ j' ≤ 10 ∧ Stay (fun _ => False) wo wr) (fun jv _ => ks.length - (intOf jv).toNat)
              case atStart => exact ⟨0, rfl, Nat.zero_le _, Nat.zero_le _, Stay.refl _ _⟩
              case round =>
                obtain ⟨r, rfl, hr, hr10, hst⟩ := hrel
                have HWS := Lib.hid (HWO.out.trans hst)
                have HWR2 := Lib.hid hst
                clear hst
                by_cases hrl : r < ks.length
                · by_cases hr9 : r < 10
                  · obtain ⟨k, hk⟩ : ∃ k, ks[r]? = some k := ⟨_, List.getElem?_eq_getElem hrl⟩
                    have HKK := Lib.hid (HKL.out k (List.mem_of_getElem? hk))
                    obtain ⟨lb, lo, rfl, _, hcc⟩ := HKS.out.at (by omega)
                    have HCK := Lib.hid (show ∀ W, Stay (fun _ => False) wr W → W.cell? ⟨lb, lo + r, none⟩ = some (.string ⟨k.toArray⟩) from fun W hW => hcc W (fun _ => False) (((HSW.out.trans HS7.out).trans HWS.out).trans hW) (fun x => x) r k hk)
                    have c0 := HCK.out wr (Stay.refl _ _)
                    have hrl' : (r : Int) < ks.length := by omega
                    clear hk hcc
                    go_wp2_with fail
                    refine (get_any wr t p q M k (HT7.out.stay0 HWS.out) HKK.out).mono ?_
                    rintro y w8 ⟨rfl, s8⟩
                    have HRG := Lib.hid (fun W (hW : EnS W (.slice (some ⟨g, o, none⟩) i cv) M) => Me.rget_any W _ M k hW)
                    generalize entOf (getL M k) = e at *
                    generalize (getL M k).isSome = s at *
                    have HW8' := Lib.hid s8
                    have HBX := Lib.hid (Box.new w8 ⟨[], [], false⟩)
                    have HA := Lib.hid (show Stay (fun _ => False) w8 (w8.alloc (.cells (enC ⟨[], [], false⟩).toArray 28)) from Stay.alloc _ _)
                    obtain ⟨bx, hbx⟩ : ∃ bx, bx = w8.heap.size := ⟨_, rfl⟩
                    rw [← hbx] at HBX
                    have HBB := Lib.hid hbx
                    obtain ⟨wa, hwa⟩ : ∃ wa, w8.alloc (.cells (enC ⟨[], [], false⟩).toArray 28) = wa := ⟨_, rfl⟩
                    rw [hwa] at HBX HA
                    have WA := Lib.hid hwa
                    clear s8 c0 hbx hwa
                    go_wp2_with (first
                      | ((with_reducible refine Me.alloc_en rfl rfl ?_); rw [WA.out, ← HBB.out])
                      | ((with_reducible refine Me.at_op (.store 28 (.tmp 18) (.tmp 142)) rfl ?_); refine Box.store HBX.out rfl (.tmp 18) (.tmp 142) rfl rfl e rfl ?_
                         intro wb hbb hsb
                         have HBX8 := Lib.hid hbb
                         have HSB := Lib.hid (show Stay (fun _ => False) wr wb from HW8'.out.trans (stay_seal ((HA.out.mono (fun _ x => x.elim)).trans hsb) (fun k hk => by have hk' : k = bx := hk; have := HBB.out; omega)))
                         have c0 := HCK.out wb HSB.out
                         clear hbb hsb))
                    refine (HRG.out wb (hv7.out.stay0 (HWS.out.trans HSB.out))).mono ?_
                    rintro y w9 ⟨rfl, s9⟩
                    have HBX9 := Lib.hid (HBX8.out.stay0 s9)
                    have HS9 := Lib.hid (HSB.out.trans s9)
                    have HBY := Lib.hid (Box.new w9 ⟨[], [], false⟩)
                    have HAY := Lib.hid (show Stay (fun _ => False) w9 (w9.alloc (.cells (enC ⟨[], [], false⟩).toArray 28)) from Stay.alloc _ _)
                    obtain ⟨bz, hbz⟩ : ∃ bz, bz = w9.heap.size := ⟨_, rfl⟩
                    rw [← hbz] at HBY
                    have HBZ := Lib.hid hbz
                    obtain ⟨wd, hwd⟩ : ∃ wd, w9.alloc (.cells (enC ⟨[], [], false⟩).toArray 28) = wd := ⟨_, rfl⟩
                    rw [hwd] at HBY HAY
                    have WD := Lib.hid hwd
                    clear s9 c0 hbz hwd HA HBX WA HBX8
                    go_wp2_with (first
                      | ((with_reducible refine Me.alloc_en rfl rfl ?_); rw [WD.out, ← HBZ.out])
                      | ((with_reducible refine Me.at_op (.store 28 (.tmp 21) (.tmp 152)) rfl ?_); refine Box.store HBY.out rfl (.tmp 21) (.tmp 152) rfl rfl e rfl ?_
                         intro we hbe hse
                         have HBE := Lib.hid hbe
                         have hs10 := stay_seal ((HAY.out.mono (fun _ x => x.elim)).trans hse) (fun k hk => by have hk' : k = bz := hk; have := HBZ.out; omega)
                         have HBX10 := Lib.hid (HBX9.out.stay0 hs10)
                         have HS10 := Lib.hid (HS9.out.trans hs10)
                         clear hbe hse hs10)
                      | ((with_reducible refine Me.at_op (.load 28 (.tmp 18)) rfl ?_); refine Me.wpList_load_run (by rfl) 28 (.tmp 18) rfl ⟨bx, 0, none⟩ rfl _ HBX10.out.run_load ?_)
                      | ((with_reducible refine Me.at_op (.load 28 (.tmp 21)) rfl ?_); refine Me.wpList_load_run (by rfl) 28 (.tmp 21) rfl ⟨bz, 0, none⟩ rfl _ HBE.out.run_load ?_)
                      | ((with_reducible refine Me.at_op (.binOp .neq 28 (.tmp 162) (.tmp 163) 28) rfl ?_); refine Me.wpList_neq_en (by rfl) (.tmp 162) (.tmp 163) rfl e e rfl rfl ?_; rw [HEE.out e]))
                    refine ⟨⟨r + 1, by go_num, hrl, hr9, HWR2.out.trans HS10.out⟩, by simp [intOf]; omega⟩
                  · skip
                    obtain ⟨n1, hn1⟩ : ∃ n1, i = n1 + 1 := ⟨i - 1, by omega⟩
                    subst hn1
                    obtain ⟨e0, he0, hk0⟩ := at_of (L := M) (i := 0) (by rw [← HNL.out]; omega)
                    obtain ⟨e1, he1, hk1⟩ := at_of (L := M) (i := n1) (by rw [← HNL.out]; omega)
                    have HK0 := Lib.hid hk0
                    have HK1 := Lib.hid (show lastK M = e1.k by unfold lastK; rw [← HNL.out, Nat.add_sub_cancel]; exact hk1)
                    go_wp2_with fail
                    refine (entries_any wr t p q M (HT7.out.stay0 HWS.out)).mono ?_
                    rintro y w11 ⟨⟨v11, rfl, ho11⟩, s11⟩
                    have HE11 := Lib.hid ho11.ens
                    have HW11 := Lib.hid (HWS.out.trans s11)
                    have HT11 := Lib.hid (HT7.out.stay0 HW11.out)
                    have HV11 := Lib.hid (hv7.out.stay0 HW11.out)
                    obtain ⟨a11, l11, c11, rfl⟩ : ∃ a l c, v11 = .slice a l c := by obtain ⟨a, c, e⟩ := ho11.form; exact ⟨a, _, c, e⟩
                    obtain ⟨_, _, e9, _, hcc⟩ := HV11.out.at (by rw [← HNL.out]; omega)
                    cases e9
                    have d0 := (hcc 0 e0 he0).1
                    have d1 := (hcc n1 e1 he1).1
                    rw [Nat.zero_mul, Nat.add_zero] at d0
                    obtain ⟨D, hDd⟩ : ∃ D : World → Prop, D = Stay (fun _ => False) w11 := ⟨_, rfl⟩
                    have HD := Lib.hid (show ∀ W, D W → Stay (fun _ => False) w11 W by intro W h; rw [hDd] at h; exact h)
                    have HDm := Lib.hid (show ∀ W, Stay (fun _ => False) w11 W → D W by intro W h; rw [hDd]; exact h)
                    have HN0 := Lib.hid (HDm.out _ (Stay.drew (w := w11)))
                    have k1 := fun i : InC D => (HD.out _ i.h).cell d0 (fun x => x)
                    have k2 := fun i : InC D => (HD.out _ i.h).cell d1 (fun x => x)
                    have H1 := Lib.hid (show ∀ W, D W → Calls Try.prog 16 #[.slice a11 l11 c11, .slice (some ⟨g, o, none⟩) (n1 + 1) cv] W fun e w' => e = .returned (.bool true) ∧ D w' from fun W hW => by
                      have h1 := Me.entries_eq W _ _ M M (HE11.out.stay0 (HD.out _ hW)) (HV11.out.stay0 (HD.out _ hW))
                      rw [decide_eq_true rfl] at h1
                      exact h1.mono fun e w' ⟨h3, h4⟩ => ⟨h3, HDm.out _ ((HD.out _ hW).trans h4)⟩)
                    have H2 := Lib.hid (show ∀ W, D W → Calls Try.prog 17 #[.pointer (some ⟨t, 0, none⟩)] W fun e w' => e = .returned (.int .i64 ((n1 + 1 : Nat) : Int)) ∧ D w' from fun W hW => by
                      have h1 := len_any W t p q M (HT11.out.stay0 (HD.out _ hW))
                      rw [← HNL.out] at h1
                      exact h1.mono fun e w' ⟨h3, h4⟩ => ⟨h3, h4 ▸ hW⟩)
                    have H3 := Lib.hid (show ∀ W, D W → Calls Try.prog 18 #[.pointer (some ⟨t, 0, none⟩)] W fun e w' => e = .returned (.string ⟨e0.k.toArray⟩) ∧ D w' from fun W hW => by
                      have h1 := first_any W t p q M (HT11.out.stay0 (HD.out _ hW))
                      rw [HK0.out] at h1
                      exact h1.mono fun e w' ⟨h3, h4⟩ => ⟨h3, h4 ▸ hW⟩)
                    have H4 := Lib.hid (show ∀ W, D W → Calls Try.prog 19 #[.pointer (some ⟨t, 0, none⟩)] W fun e w' => e = .returned (.string ⟨e1.k.toArray⟩) ∧ D w' from fun W hW => by
                      have h1 := last_any W t p q M (HT11.out.stay0 (HD.out _ hW))
                      rw [HK1.out] at h1
                      exact h1.mono fun e w' ⟨h3, h4⟩ => ⟨h3, h4 ▸ hW⟩)
                    have H5 := Lib.hid (show ∀ W, D W → Calls Try.prog 7 #[] W fun e w' => e = .returned (.bool true) ∧ D w' from fun W hW => (sure_any W).mono fun e w' ⟨h3, h4⟩ => ⟨h3, HDm.out _ ((HD.out _ hW).trans h4)⟩)
                    haveI : Nonempty (InC D) := ⟨⟨_, HN0.out⟩⟩
                    have hn1m : (n1 : Int) ≤ 40 := by omega
                    have hwn : IntKind.i64.wrap (n1 : Int) = (n1 : Int) := IntWalk.i64_in _ (by omega)
                    clear ho11 s11 hcc d0 d1 he0 he1 hk0 hk1 hDd
                    go_wp2
                    refine wp_region_class D HN0.out (by kernel_rfl) (by kernel_rfl) ?_
                    repeat (go_big_quiet_step ((first
                      | with_reducible exact calls_class H1.out
                      | with_reducible exact calls_class H2.out
                      | with_reducible exact calls_class H3.out
                      | with_reducible exact calls_class H4.out
                      | with_reducible exact calls_class H5.out)))
                    refine wpQuiet_nil ?_
                    rintro W ⟨iw, rfl⟩
                    have hst := HD.out _ iw.h
                    clear k1 k2
                    generalize iw.w = w12 at *
                    have HF := Lib.hid (((HSW.out.trans HS7.out).trans HW11.out).trans hst)
                    clear hst
                    go_wp2
                    go_ret
                    exact ⟨rfl, HF.out⟩
                · skip
                  obtain ⟨n1, hn1⟩ : ∃ n1, i = n1 + 1 := ⟨i - 1, by omega⟩
                  subst hn1
                  obtain ⟨e0, he0, hk0⟩ := at_of (L := M) (i := 0) (by rw [← HNL.out]; omega)
                  obtain ⟨e1, he1, hk1⟩ := at_of (L := M) (i := n1) (by rw [← HNL.out]; omega)
                  have HK0 := Lib.hid hk0
                  have HK1 := Lib.hid (show lastK M = e1.k by unfold lastK; rw [← HNL.out, Nat.add_sub_cancel]; exact hk1)
                  go_wp2_with fail
                  refine (entries_any wr t p q M (HT7.out.stay0 HWS.out)).mono ?_
                  rintro y w11 ⟨⟨v11, rfl, ho11⟩, s11⟩
                  have HE11 := Lib.hid ho11.ens
                  have HW11 := Lib.hid (HWS.out.trans s11)
                  have HT11 := Lib.hid (HT7.out.stay0 HW11.out)
                  have HV11 := Lib.hid (hv7.out.stay0 HW11.out)
                  obtain ⟨a11, l11, c11, rfl⟩ : ∃ a l c, v11 = .slice a l c := by obtain ⟨a, c, e⟩ := ho11.form; exact ⟨a, _, c, e⟩
                  obtain ⟨_, _, e9, _, hcc⟩ := HV11.out.at (by rw [← HNL.out]; omega)
                  cases e9
                  have d0 := (hcc 0 e0 he0).1
                  have d1 := (hcc n1 e1 he1).1
                  rw [Nat.zero_mul, Nat.add_zero] at d0
                  obtain ⟨D, hDd⟩ : ∃ D : World → Prop, D = Stay (fun _ => False) w11 := ⟨_, rfl⟩
                  have HD := Lib.hid (show ∀ W, D W → Stay (fun _ => False) w11 W by intro W h; rw [hDd] at h; exact h)
                  have HDm := Lib.hid (show ∀ W, Stay (fun _ => False) w11 W → D W by intro W h; rw [hDd]; exact h)
                  have HN0 := Lib.hid (HDm.out _ (Stay.drew (w := w11)))
                  have k1 := fun i : InC D => (HD.out _ i.h).cell d0 (fun x => x)
                  have k2 := fun i : InC D => (HD.out _ i.h).cell d1 (fun x => x)
                  have H1 := Lib.hid (show ∀ W, D W → Calls Try.prog 16 #[.slice a11 l11 c11, .slice (some ⟨g, o, none⟩) (n1 + 1) cv] W fun e w' => e = .returned (.bool true) ∧ D w' from fun W hW => by
                    have h1 := Me.entries_eq W _ _ M M (HE11.out.stay0 (HD.out _ hW)) (HV11.out.stay0 (HD.out _ hW))
                    rw [decide_eq_true rfl] at h1
                    exact h1.mono fun e w' ⟨h3, h4⟩ => ⟨h3, HDm.out _ ((HD.out _ hW).trans h4)⟩)
                  have H2 := Lib.hid (show ∀ W, D W → Calls Try.prog 17 #[.pointer (some ⟨t, 0, none⟩)] W fun e w' => e = .returned (.int .i64 ((n1 + 1 : Nat) : Int)) ∧ D w' from fun W hW => by
                    have h1 := len_any W t p q M (HT11.out.stay0 (HD.out _ hW))
                    rw [← HNL.out] at h1
                    exact h1.mono fun e w' ⟨h3, h4⟩ => ⟨h3, h4 ▸ hW⟩)
                  have H3 := Lib.hid (show ∀ W, D W → Calls Try.prog 18 #[.pointer (some ⟨t, 0, none⟩)] W fun e w' => e = .returned (.string ⟨e0.k.toArray⟩) ∧ D w' from fun W hW => by
                    have h1 := first_any W t p q M (HT11.out.stay0 (HD.out _ hW))
                    rw [HK0.out] at h1
                    exact h1.mono fun e w' ⟨h3, h4⟩ => ⟨h3, h4 ▸ hW⟩)
                  have H4 := Lib.hid (show ∀ W, D W → Calls Try.prog 19 #[.pointer (some ⟨t, 0, none⟩)] W fun e w' => e = .returned (.string ⟨e1.k.toArray⟩) ∧ D w' from fun W hW => by
                    have h1 := last_any W t p q M (HT11.out.stay0 (HD.out _ hW))
                    rw [HK1.out] at h1
                    exact h1.mono fun e w' ⟨h3, h4⟩ => ⟨h3, h4 ▸ hW⟩)
                  have H5 := Lib.hid (show ∀ W, D W → Calls Try.prog 7 #[] W fun e w' => e = .returned (.bool true) ∧ D w' from fun W hW => (sure_any W).mono fun e w' ⟨h3, h4⟩ => ⟨h3, HDm.out _ ((HD.out _ hW).trans h4)⟩)
                  haveI : Nonempty (InC D) := ⟨⟨_, HN0.out⟩⟩
                  have hn1m : (n1 : Int) ≤ 40 := by omega
                  have hwn : IntKind.i64.wrap (n1 : Int) = (n1 : Int) := IntWalk.i64_in _ (by omega)
                  clear ho11 s11 hcc d0 d1 he0 he1 hk0 hk1 hDd
                  go_wp2
                  refine wp_region_class D HN0.out (by kernel_rfl) (by kernel_rfl) ?_
                  repeat (go_big_quiet_step ((first
                    | with_reducible exact calls_class H1.out
                    | with_reducible exact calls_class H2.out
                    | with_reducible exact calls_class H3.out
                    | with_reducible exact calls_class H4.out
                    | with_reducible exact calls_class H5.out)))
                  refine wpQuiet_nil ?_
                  rintro W ⟨iw, rfl⟩
                  have hst := HD.out _ iw.h
                  clear k1 k2
                  generalize iw.w = w12 at *
                  have HF := Lib.hid (((HSW.out.trans HS7.out).trans HW11.out).trans hst)
                  clear hst
                  go_wp2
                  go_ret
                  exact ⟨rfl, HF.out⟩
end Go.Proofs.Yteogdihacohkfaa.Tb
