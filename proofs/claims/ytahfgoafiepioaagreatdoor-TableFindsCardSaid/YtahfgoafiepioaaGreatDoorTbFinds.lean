/-
  table's laws: TableFinds, walked.
-/
import Derived.Test.YtahfgoafiepioaaGreatDoorGaX
import Derived.Test.YtahfgoafiepioaaGreatDoorTbM
import Derived.Test.YtahfgoafiepioaaGreatDoorTbN
import Derived.Test.YtahfgoafiepioaaGreatDoorTbO
import Derived.Test.YtahfgoafiepioaaGreatDoorGaC
import Derived.Test.YtahfgoafiepioaaGreatDoorErrPk
import Derived.Test.YtahfgoafiepioaaGreatDoorHeldS
import Derived.Test.YtahfgoafiepioaaGreatDoorDeNar
namespace Go.Proofs.YtahfgoafiepioaaGreatDoor.Tb
open Go.RowKit
open Pk (stay_seal)
open Me (En EnS EnO Box enC enV enRows norm ltB Sorted getL posN hasB sizeL entOf putsL putL Short)
open Pk (Slc Owns)
set_option maxRecDepth 100000
set_option linter.unusedVariables false

theorem small_modF (x : Int) (m : Nat) (h1 : 1 ≤ m) (h2 : m ≤ 1000) : ∃ s : Nat, wrap64 (1 + wrap64 ((IntKind.u64.wrap x).tmod m)) = (s : Int) ∧ 1 ≤ s ∧ s ≤ m := by
  obtain ⟨h0, h3⟩ := Bo.u64_in x
  rw [Int.tmod_eq_emod_of_nonneg h0]
  generalize IntKind.u64.wrap x = u at *
  have h4 := Int.emod_nonneg u (show (m : Int) ≠ 0 by omega)
  have h5 := Int.emod_lt_of_pos u (show (0 : Int) < m by omega)
  refine ⟨(1 + u % m).toNat, ?_, by omega, by omega⟩
  rw [Bo.wrap_small (u % m) (by omega) (by omega), Bo.wrap_small _ (by omega) (by omega)]
  omega
theorem run_guard_eq (w : World) (x y : Operand) (p q : En) : (eqGuard .eql 27 x y (enV p) (enV q)).run Tryz.prog w = .ok () w :=
  run_eqGuard_agg (P := Tryz.prog) w .eql 27 x y (enC p).toArray (enC q).toArray Me.eq_guard
theorem run_eql_en (w : World) (p : En) : (binOp .eql 27 (enV p) (enV p)).run Tryz.prog w = .ok (.bool true) w := by
  have hb := run_eql_struct (P := Tryz.prog) w 27 (enC p).toArray (enC p).toArray
  have he := Me.eq_en w p p
  rw [Me.eqE_is, decide_eq_true rfl] at he
  unfold enV at he ⊢
  rw [hb, he, Result.andThen_ok]
theorem quiet_eq_en {D : World → Prop} {ops : Array Oper} {rest : List Oper} {o : Oper} {a : Act} {Q : Act → Prop} (hgd : Region.wanted o (yielded ops a.tmps) = true) (x y : Operand) (ho : o.op = .binOp .eql 27 x y 27) (p : En) (hx : a.eval x = enV p) (hy : a.eval y = enV p)
    (h : wpQuiet Tryz.prog ops (fun w' => ∃ i : InC D, w' = i.w) Q rest (a.put o.dst (.bool true))) : wpQuiet Tryz.prog ops (fun w' => ∃ i : InC D, w' = i.w) Q (o :: rest) a := by
  refine wpQuiet_step fun K hK => ?_
  rw [if_pos hgd]
  refine ⟨.bool true, fun w' hw => ?_, hK _ h⟩
  obtain ⟨i, rfl⟩ := hw
  unfold Oper.quietAt execOp
  simp only [ho, hx, hy, Sem.run_bind, run_guard_eq, run_eql_en, Result.andThen_ok]
  exact ⟨rfl, rfl⟩

set_option maxHeartbeats 4000000 in
theorem finds_walk (w : World) (x : Value) (L : List En) (x0 x1 : Int) (k : List UInt8) (hg : ErrCell w) (hx : EnS w x L) (hs : Short L) (hk : k.length ≤ 140737488351232) :
    Calls Tryz.prog 3 #[x, .agg #[.int .i64 x0, .int .i64 x1], .string ⟨k.toArray⟩] w fun e w' => e = .returned (.bool true) ∧ Stay (fun _ => False) w w' := by
  have HX := Lib.hid hx
  have HSH := Lib.hid hs
  obtain ⟨a0, c, rfl⟩ := hx.form
  have HKK := Lib.hid hk
  have HGE := Lib.hid hg
  obtain ⟨b, hb⟩ : ∃ b, b = w.heap.size := ⟨_, rfl⟩
  obtain ⟨w0, hw0⟩ : ∃ w0, w.alloc (.cells #[.int .i64 x0, .int .i64 x1] 24) = w0 := ⟨_, rfl⟩
  have HZW := Lib.hid (show Bo.SzAt w0 b x0 x1 from by rw [hb, ← hw0]; exact heap_alloc_new w _)
  have hs0 : Stay (fun _ => False) w w0 := hw0 ▸ Stay.alloc _ _
  have HSW := Lib.hid hs0
  have HX0 := Lib.hid (HX.out.stay0 hs0)
  have HW0 := HZW
  have WW := Lib.hid hw0
  have HBW := Lib.hid hb
  clear hx hs hk hg hw0 hs0 hb
  go_enter Tryz.func3, Tryz.ntmps3
  go_wp2
  rw [WW.out, ← HBW.out]
  go_loopw [7, 8] (fun v i wr => ∃ j : Nat, i = .int .i64 (j : Int) ∧ j ≤ L.length ∧ j ≤ 40 ∧ Hid (EnS wr v (putsL L j)) ∧ Stay (fun _ => False) w0 wr) (fun _ i _ => L.length - (intOf i).toNat)
  case atStart => exact ⟨0, rfl, Nat.zero_le _, Nat.zero_le _, Lib.hid (EnS.nil _), Stay.refl _ _⟩
  case round =>
    obtain ⟨j, rfl, hj, hj40, hv, hst⟩ := hrel
    have HS := Lib.hid hst
    have HM := Lib.hid (show (putsL L j).length ≤ 1000 by have := Me.putsL_len L j; omega)
    clear hst
    by_cases hlt : j < L.length
    · by_cases hlt40 : j < 40
      · obtain ⟨q, hq⟩ : ∃ q, L[j]? = some q := ⟨_, List.getElem?_eq_getElem (by omega)⟩
        obtain ⟨g, o, rfl, _, hc⟩ := (HX0.out.stay0 HS.out).at (by omega)
        obtain ⟨h0, h1, h2⟩ := hc _ q hq
        have kl := Lib.hid (Me.run_load_at h0 h1 h2)
        have HP := Lib.hid (Me.putsL_succ hq)
        clear hq hc h0 h1 h2
        go_wp2_with (first
          | (refine Me.wpList_load_run (by rfl) 27 (.tmp 34) rfl ⟨g, o + j * 3, none⟩ rfl _ kl.out ?_))
        refine (Me.rput_any wr _ (putsL L j) q hv.out HM.out).mono ?_
        rintro y w2 ⟨v2, rfl, ho2, hs2⟩
        rw [← HP.out] at ho2
        have HO2 := Lib.hid ho2.ens
        have HS2 := Lib.hid (HS.out.trans hs2)
        clear ho2 hs2
        go_wp2
        refine ⟨⟨j + 1, by go_num, hlt, hlt40, HO2, HS2.out⟩, by simp [intOf]; omega⟩
      · skip
        have hml : (putsL L j).length ≤ 40 := by have := Me.putsL_len L j; omega
        obtain ⟨M, hM⟩ : ∃ M, M = putsL L j := ⟨_, rfl⟩
        have hMs : Sorted M := hM ▸ Me.putsL_sorted L j
        have hMn : ∀ e ∈ M, norm e = e := hM ▸ norm_puts L j
        have hMh : Short M := hM ▸ Me.short_puts HSH.out j
        have hMz : sizeL M ≤ M.length * 281474976702464 := Me.short_size hMh
        rw [← hM] at hv HM hml
        clear hM
        obtain ⟨n, hn⟩ : ∃ n, n = M.length := ⟨_, rfl⟩
        have HNL := Lib.hid hn
        have HMS := Lib.hid hMs
        have HMN := Lib.hid hMn
        have HMH := Lib.hid hMh
        obtain ⟨av, cv, rfl⟩ := hv.out.form
        rw [← hn] at hv hml hMz ⊢
        have hnm : (n : Int) ≤ 40 := by omega
        have HSZ := Lib.hid (show Calls Tryz.prog 5 #[.slice av n cv] wr fun e w' => e = .returned (.int .i64 (sizeL M : Int)) ∧ Stay (fun _ => False) wr w' from Me.rsize_any wr _ M hv.out (by omega))
        clear hn hMs hMn hMh
        by_cases h0 : n = 0
        · have hn0 : ((n : Int) == 0) = true := by simp [h0]
          go_wp2_with fail
          refine (sure_any wr).mono ?_
          rintro e w3 ⟨rfl, s3⟩
          have HF := Lib.hid (HS.out.trans s3)
          clear s3
          go_wp2
          go_ret
          exact ⟨rfl, HSW.out.trans HF.out⟩
        · have hn0 : ((n : Int) == 0) = false := beq_eq_false_iff_ne.2 (by omega)
          go_wp2_with fail
          refine HSZ.out.mono ?_
          rintro e w3 ⟨rfl, s3⟩
          have HS3 := Lib.hid (HS.out.trans s3)
          have hv3 := Lib.hid (hv.out.stay0 s3)
          have HB3 := Lib.hid (HW0.out.stay0 HS3.out)
          clear s3
          obtain ⟨sz, hsz⟩ : ∃ sz, sz = sizeL M := ⟨_, rfl⟩
          have HZ := Lib.hid hsz
          rw [← hsz]
          clear hsz
          by_cases hbig : 10000 < sz
          · go_wp2_with fail
            refine (sure_any w3).mono ?_
            rintro e w4 ⟨rfl, s4⟩
            have HF := Lib.hid (HS3.out.trans s4)
            clear s4
            go_wp2
            go_ret
            exact ⟨rfl, HSW.out.trans HF.out⟩
          · obtain ⟨p, hp, hp1, hp9⟩ : ∃ k : Nat, wrap64 (1 + wrap64 ((IntKind.u64.wrap x0).tmod 4)) = (k : Int) ∧ 1 ≤ k ∧ k ≤ 4 := small_modF x0 4 (by omega) (by omega)
            obtain ⟨q, hq, hq1, hq16⟩ : ∃ k : Nat, wrap64 (1 + wrap64 ((IntKind.u64.wrap x1).tmod 8)) = (k : Int) ∧ 1 ≤ k ∧ k ≤ 8 := small_modF x1 8 (by omega) (by omega)
            have HPP := Lib.hid hp
            have HQQ := Lib.hid hq
            have HZ0 := Lib.hid HB3.out.c0
            have HZ1 := Lib.hid HB3.out.c1
            have hqn : q * M.length ≤ 8 * 40 := Nat.mul_le_mul hq16 (by rw [← HNL.out]; exact hml)
            have hG : Good M p q := ⟨hp1, hq1, by have := HNL.out; omega, by have := HNL.out; omega, HMS.out, HMN.out, by have := HZ.out; omega, by omega⟩
            have hTL : (tabB M p q).length ≤ 1048576 := by
              have h1 := length_tabB (L := M) (p := p) (q := q) hp1 (by omega)
              have h2 := HNL.out
              have h3 := HZ.out
              omega
            have HG := Lib.hid hG
            have HTL := Lib.hid hTL
            clear hp hq hG hTL hqn
            go_wp2
            refine wp_region_held (S := Stay (fun _ => False) w3.drew) (by kernel_rfl) ?_
            change wpAnyH _ _ _ _ _ _ _ _ (World.drew _)
            have hst : Stay (fun _ => False) w3 w3.drew := Stay.drew
            refine wpAnyH_takeL (i := 0) (v := .slice av n cv) #[true, false, false, false, false, false, false, false, false, false, false, false, false, false, false, false, false, false, false, false] rfl (by kernel_rfl) (by kernel_rfl) (by kernel_rfl) (fun _ _ _ h => h) (by kernel_rfl) (Stay.refl _ _) (Or.inl ⟨by rfl, fun W hW => ?_⟩) ?_
            · go_simp
            conv => arg 8; simp [Act.put]
            refine wpAnyH_takeL (i := 2) (v := .pointer (some ⟨b, 0, none⟩)) #[true, false, true, false, false, false, false, false, false, false, false, false, false, false, false, false, false, false, false, false] rfl (by kernel_rfl) (by kernel_rfl) (by kernel_rfl) (fun _ _ _ h => h) (by kernel_rfl) (Stay.refl _ _) (Or.inl ⟨by rfl, fun W hW => ?_⟩) ?_
            · go_simp
            conv => arg 8; simp [Act.put]
            refine wpAnyH_takeL (i := 3) (v := .int .i64 x0) #[true, false, true, true, false, false, false, false, false, false, false, false, false, false, false, false, false, false, false, false] rfl (by kernel_rfl) (by kernel_rfl) (by kernel_rfl) (fun _ _ _ h => h) (by kernel_rfl) (Stay.refl _ _) (Or.inl ⟨by rfl, fun W hW => ?_⟩) ?_
            · have kc := (hst.trans hW).cell HZ0.out (fun x => x)
              go_simp
            conv => arg 8; simp [Act.put]
            refine wpAnyH_takeL (i := 4) (v := .int .u64 (IntKind.u64.wrap x0)) #[true, false, true, true, true, false, false, false, false, false, false, false, false, false, false, false, false, false, false, false] rfl (by kernel_rfl) (by kernel_rfl) (by kernel_rfl) (fun _ _ _ h => h) (by kernel_rfl) (Stay.refl _ _) (Or.inl ⟨by rfl, fun W hW => ?_⟩) ?_
            · go_simp
            conv => arg 8; simp [Act.put]
            refine wpAnyH_takeL (i := 5) (v := .int .u64 ((IntKind.u64.wrap x0).tmod 4)) #[true, false, true, true, true, true, false, false, false, false, false, false, false, false, false, false, false, false, false, false] rfl (by kernel_rfl) (by kernel_rfl) (by kernel_rfl) (fun _ _ _ h => h) (by kernel_rfl) (Stay.refl _ _) (Or.inl ⟨by rfl, fun W hW => ?_⟩) ?_
            · go_simp
            conv => arg 8; simp [Act.put]
            refine wpAnyH_takeL (i := 6) (v := .int .i64 (wrap64 ((IntKind.u64.wrap x0).tmod 4))) #[true, false, true, true, true, true, true, false, false, false, false, false, false, false, false, false, false, false, false, false] rfl (by kernel_rfl) (by kernel_rfl) (by kernel_rfl) (fun _ _ _ h => h) (by kernel_rfl) (Stay.refl _ _) (Or.inl ⟨by rfl, fun W hW => ?_⟩) ?_
            · go_simp
              exact Bo.i64_wrap _
            conv => arg 8; simp [Act.put]
            refine wpAnyH_takeL (i := 7) (v := .int .i64 (p : Int)) #[true, false, true, true, true, true, true, true, false, false, false, false, false, false, false, false, false, false, false, false] rfl (by kernel_rfl) (by kernel_rfl) (by kernel_rfl) (fun _ _ _ h => h) (by kernel_rfl) (Stay.refl _ _) (Or.inl ⟨by rfl, fun W hW => ?_⟩) ?_
            · go_simp
              exact (Bo.i64_wrap _).trans HPP.out
            conv => arg 8; simp [Act.put]
            refine wpAnyH_takeL (i := 8) (v := .pointer (some ⟨b, 1, none⟩)) #[true, false, true, true, true, true, true, true, true, false, false, false, false, false, false, false, false, false, false, false] rfl (by kernel_rfl) (by kernel_rfl) (by kernel_rfl) (fun _ _ _ h => h) (by kernel_rfl) (Stay.refl _ _) (Or.inl ⟨by rfl, fun W hW => ?_⟩) ?_
            · go_simp
            conv => arg 8; simp [Act.put]
            refine wpAnyH_takeL (i := 9) (v := .int .i64 x1) #[true, false, true, true, true, true, true, true, true, true, false, false, false, false, false, false, false, false, false, false] rfl (by kernel_rfl) (by kernel_rfl) (by kernel_rfl) (fun _ _ _ h => h) (by kernel_rfl) (Stay.refl _ _) (Or.inl ⟨by rfl, fun W hW => ?_⟩) ?_
            · have kc := (hst.trans hW).cell HZ1.out (fun x => x)
              go_simp
            conv => arg 8; simp [Act.put]
            refine wpAnyH_takeL (i := 10) (v := .int .u64 (IntKind.u64.wrap x1)) #[true, false, true, true, true, true, true, true, true, true, true, false, false, false, false, false, false, false, false, false] rfl (by kernel_rfl) (by kernel_rfl) (by kernel_rfl) (fun _ _ _ h => h) (by kernel_rfl) (Stay.refl _ _) (Or.inl ⟨by rfl, fun W hW => ?_⟩) ?_
            · go_simp
            conv => arg 8; simp [Act.put]
            refine wpAnyH_takeL (i := 11) (v := .int .u64 ((IntKind.u64.wrap x1).tmod 8)) #[true, false, true, true, true, true, true, true, true, true, true, true, false, false, false, false, false, false, false, false] rfl (by kernel_rfl) (by kernel_rfl) (by kernel_rfl) (fun _ _ _ h => h) (by kernel_rfl) (Stay.refl _ _) (Or.inl ⟨by rfl, fun W hW => ?_⟩) ?_
            · go_simp
            conv => arg 8; simp [Act.put]
            refine wpAnyH_takeL (i := 12) (v := .int .i64 (wrap64 ((IntKind.u64.wrap x1).tmod 8))) #[true, false, true, true, true, true, true, true, true, true, true, true, true, false, false, false, false, false, false, false] rfl (by kernel_rfl) (by kernel_rfl) (by kernel_rfl) (fun _ _ _ h => h) (by kernel_rfl) (Stay.refl _ _) (Or.inl ⟨by rfl, fun W hW => ?_⟩) ?_
            · go_simp
              exact Bo.i64_wrap _
            conv => arg 8; simp [Act.put]
            refine wpAnyH_takeL (i := 13) (v := .int .i64 (q : Int)) #[true, false, true, true, true, true, true, true, true, true, true, true, true, true, false, false, false, false, false, false] rfl (by kernel_rfl) (by kernel_rfl) (by kernel_rfl) (fun _ _ _ h => h) (by kernel_rfl) (Stay.refl _ _) (Or.inl ⟨by rfl, fun W hW => ?_⟩) ?_
            · go_simp
              exact (Bo.i64_wrap _).trans HQQ.out
            conv => arg 8; simp [Act.put]
            refine wpAnyH_one #[true, true, true, true, true, true, true, true, true, true, true, true, true, true, false, false, false, false, false, false] (i := 1) rfl (by kernel_rfl) (by kernel_rfl) (fun K hK => ?_)
            go_simp
            go_wp2_with (go_at_call 8; refine (Me.own_any w3.drew _ M (hv3.out.stay0 hst) (by have := HNL.out; omega)).mono ?_; rintro e z1 ⟨v4, rfl, ho4, s⟩; have HE4 := Lib.hid ho4.ens; clear ho4)
            replace hst := hst.trans s
            refine hK _ _ s ?_
            clear hK
            conv => arg 8; simp [Act.put]
            refine wpAnyH_narrow (S' := Stay (fun _ => False) z1) (fun _ h => s.trans h) _ _ _ _ ?_
            clear s
            refine wpAnyH_one #[true, true, true, true, true, true, true, true, true, true, true, true, true, true, true, false, false, false, false, false] (i := 14) rfl (by kernel_rfl) (by kernel_rfl) (fun K hK => ?_)
            go_simp
            go_wp2_with (go_at_call 7; refine (build_ok z1 v4 M p q HE4.out HMS.out hp1 (by omega) hq1 (by omega) HG.out.n1 HG.out.n2 (by have := HG.out.sz; omega) HTL.out).mono ?_; rintro e z2 ⟨⟨v5, rfl, ho5⟩, s⟩; have HSL5 := Lib.hid ho5.slc; obtain ⟨a5, l5, c5, rfl⟩ : ∃ a l c, v5 = .slice a l c := (by obtain ⟨a, c, e⟩ := ho5.form; exact ⟨a, _, c, e⟩); clear ho5)
            replace hst := hst.trans s
            refine hK _ _ s ?_
            clear hK
            conv => arg 8; simp [Act.put]
            refine wpAnyH_narrow (S' := Stay (fun _ => False) z2) (fun _ h => s.trans h) _ _ _ _ ?_
            clear s
            refine wpAnyH_takeL (i := 15) (v := .tuple #[.slice a5 l5 c5, .nilIface]) #[true, true, true, true, true, true, true, true, true, true, true, true, true, true, true, true, false, false, false, false] rfl (by kernel_rfl) (by kernel_rfl) (by kernel_rfl) (fun _ _ _ h => h) (by kernel_rfl) (Stay.refl _ _) (Or.inl ⟨by rfl, fun W hW => ?_⟩) ?_
            · go_simp
            conv => arg 8; simp [Act.put]
            refine wpAnyH_takeL (i := 16) (v := .slice a5 l5 c5) #[true, true, true, true, true, true, true, true, true, true, true, true, true, true, true, true, true, false, false, false] rfl (by kernel_rfl) (by kernel_rfl) (by kernel_rfl) (fun _ _ _ h => h) (by kernel_rfl) (Stay.refl _ _) (Or.inl ⟨by rfl, fun W hW => ?_⟩) ?_
            · go_simp
            conv => arg 8; simp [Act.put]
            refine wpAnyH_takeL (i := 17) (v := .nilIface) #[true, true, true, true, true, true, true, true, true, true, true, true, true, true, true, true, true, true, false, false] rfl (by kernel_rfl) (by kernel_rfl) (by kernel_rfl) (fun _ _ _ h => h) (by kernel_rfl) (Stay.refl _ _) (Or.inl ⟨by rfl, fun W hW => ?_⟩) ?_
            · go_simp
            conv => arg 8; simp [Act.put]
            refine wpAnyH_takeL (i := 18) (v := .slice a5 l5 c5) #[true, true, true, true, true, true, true, true, true, true, true, true, true, true, true, true, true, true, true, false] rfl (by kernel_rfl) (by kernel_rfl) (by kernel_rfl) (fun _ _ _ h => h) (by kernel_rfl) (Stay.refl _ _) (Or.inl ⟨by rfl, fun W hW => ?_⟩) ?_
            · go_simp
            conv => arg 8; simp [Act.put]
            refine wpAnyH_takeL (i := 19) (v := .nilIface) #[true, true, true, true, true, true, true, true, true, true, true, true, true, true, true, true, true, true, true, true] rfl (by kernel_rfl) (by kernel_rfl) (by kernel_rfl) (fun _ _ _ h => h) (by kernel_rfl) (Stay.refl _ _) (Or.inl ⟨by rfl, fun W hW => ?_⟩) ?_
            · go_simp
            conv => arg 8; simp [Act.put]
            refine wpAnyH_done (by kernel_rfl) ?_ _
            have HS6 := Lib.hid (HS3.out.trans hst)
            have HOP := Lib.hid (open_any z2 _ M p q HSL5.out HG.out)
            have HSLZ := Lib.hid HSL5.out
            clear hst HE4 HSZ
            go_wp2_with fail
            refine HOP.out.mono ?_
            rintro e w7 ⟨⟨t, rfl, _, ht⟩, s7⟩
            have HS7 := Lib.hid (HS6.out.trans s7)
            have HT7 := Lib.hid ht
            have HRO := Lib.hid (ropen13_any w7 _ M p q (HSLZ.out.stay0 s7) HG.out)
            clear ht s7 HOP HSL5 HSLZ
            go_wp2_with fail
            refine HRO.out.mono ?_
            rintro e w8 ⟨⟨gf, cf, gp, cp, fa, fs, fc, rfl, hrt, hcf, hcp⟩, s8⟩
            obtain ⟨m, hm⟩ : ∃ m, m = cN M.length p := ⟨_, rfl⟩
            obtain ⟨kl, hkl⟩ : ∃ kl, kl = lastK M := ⟨_, rfl⟩
            have HMC := Lib.hid hm
            have HKL := Lib.hid hkl
            have hcf' := Lib.hid hcf
            have hcp' := Lib.hid hcp
            rw [← hm, ← hkl, ← HNL.out]
            have HT8 := Lib.hid (HT7.out.stay0 s8)
            have HRT := Lib.hid hrt
            have HS8 := Lib.hid (HS7.out.trans s8)
            obtain ⟨w9, hw9⟩ : ∃ w9, w8.alloc (.cells #[.int .i64 (n : Int), .slice (some ⟨gf, 0, none⟩) m cf, .slice (some ⟨gp, 0, none⟩) m cp, .string ⟨kl.toArray⟩, .int .i64 3, .slice fa fs fc] 46) = w9 := ⟨_, rfl⟩
            obtain ⟨tb, htb⟩ : ∃ tb, tb = w8.heap.size := ⟨_, rfl⟩
            have hs9 : Stay (fun _ => False) w8 w9 := hw9 ▸ Stay.alloc _ _
            have HRB9 := Lib.hid (show RBox w9 tb n m gf 0 cf gp 0 cp kl fa fs fc by rw [htb, ← hw9]; exact heap_alloc_new w8 _)
            have HT9 := Lib.hid (HT8.out.stay0 hs9)
            have HRT9 := Lib.hid (HRT.out.stay0 hs9)
            have HS9 := Lib.hid (HS8.out.trans hs9)
            have W9 := Lib.hid hw9
            have HTB := Lib.hid htb
            clear hm hkl hcf hcp hrt s8 hw9 htb hs9 HT7 HT8 HRT HRO
            unfold RT
            go_wp2_with fail
            rw [W9.out, ← HTB.out]
            refine (get_any w9 t p q M k HT9.out HKK.out).mono ?_
            rintro y w10 ⟨rfl, s10⟩
            have HS10 := Lib.hid s10
            obtain ⟨G, hG⟩ : ∃ G, G = getL M k := ⟨_, rfl⟩
            have HGG := Lib.hid hG
            rw [← hG]
            have HBX := Lib.hid (Box.new w10 ⟨[], [], false⟩)
            have HA := Lib.hid (show Stay (fun _ => False) w10 (w10.alloc (.cells (enC ⟨[], [], false⟩).toArray 27)) from Stay.alloc _ _)
            obtain ⟨bx, hbx⟩ : ∃ bx, bx = w10.heap.size := ⟨_, rfl⟩
            rw [← hbx] at HBX
            have HBB := Lib.hid hbx
            obtain ⟨wa, hwa⟩ : ∃ wa, w10.alloc (.cells (enC ⟨[], [], false⟩).toArray 27) = wa := ⟨_, rfl⟩
            rw [hwa] at HBX HA
            have WA := Lib.hid hwa
            obtain ⟨e, he⟩ : ∃ e, e = entOf G := ⟨_, rfl⟩
            have HEG := Lib.hid he
            rw [← he]
            obtain ⟨gs, hgs⟩ : ∃ gs, gs = G.isSome := ⟨_, rfl⟩
            have HGS := Lib.hid hgs
            rw [← hgs]
            have HRUN9 := Lib.hid (show ∀ W, Stay (fun _ => False) w9 W → (loadVar 46 ⟨tb, 0, none⟩).run Tryz.prog W = .ok (RT n m gf 0 cf gp 0 cp kl fa fs fc) W from fun W hW => (HRB9.out.stay hW (fun x => x)).run)
            clear s10 hG hbx hwa he hgs
            go_wp2_with (first
              | ((with_reducible refine Me.alloc_en rfl rfl ?_); rw [WA.out, ← HBB.out])
              | ((with_reducible refine Me.at_op (.store 27 (.tmp 15) (.tmp 92)) rfl ?_); refine Box.store HBX.out rfl (.tmp 15) (.tmp 92) rfl rfl e rfl ?_
                 intro wb hbb hsb
                 have HBX8 := Lib.hid hbb
                 have HSB := Lib.hid (show Stay (fun _ => False) w9 wb from HS10.out.trans (stay_seal ((HA.out.mono (fun _ x => x.elim)).trans hsb) (fun k hk => by have hk' : k = bx := hk; have := HBB.out; omega)))
                 clear hbb hsb)
              | ((with_reducible refine Me.at_op (.load 46 (.tmp 13)) rfl ?_); refine Me.wpList_load_run (by rfl) 46 (.tmp 13) rfl ⟨tb, 0, none⟩ rfl _ (HRUN9.out _ HSB.out) ?_))
            obtain ⟨j, hj⟩ := isJ_ex M p k hp1 HMS.out
            have HJ := Lib.hid hj
            obtain ⟨fn, hfn⟩ : ∃ fn, fn = findN M p q k j := ⟨_, rfl⟩
            have HFN := Lib.hid hfn
            have hgi := get_is HMS.out hp1 hq1 hj (q := q)
            rw [← hfn, ← HGG.out] at hgi
            have HGI := Lib.hid hgi
            have HFI := Lib.hid (show ∀ W, Stay (fun _ => False) w9 W → Calls Tryz.prog 14 #[RT n m gf 0 cf gp 0 cp kl fa fs fc, .string ⟨k.toArray⟩] W fun e w' => e = .returned (.int .i64 fn) ∧ Stay (fun _ => False) W w' from fun W hW => by
              have h1 := rfind_any W gf 0 cf gp 0 cp fa fs fc M p q j k (HRT9.out.stay0 hW) hcf'.out (by have h2 := cN_le (n := M.length) hp1; have := HG.out.n2; omega) HJ.out hp1 HMS.out (Nat.mul_pos hq1 HG.out.n1) HG.out.qn (by have := HKK.out; omega)
              rw [← HMC.out, ← HKL.out, ← HNL.out, ← HFN.out] at h1
              exact h1)
            have HRG := Lib.hid (show ∀ W, Stay (fun _ => False) w9 W → Calls Tryz.prog 12 #[RT n m gf 0 cf gp 0 cp kl fa fs fc, .string ⟨k.toArray⟩] W fun y w' => y = .returned (.tuple #[enV e, .bool gs, .int .i64 0]) ∧ Stay (fun _ => False) W w' from fun W hW => by
              rw [HEG.out, HGS.out]
              by_cases hf : fn < 0
              · exact rget13_any W n m gf 0 cf gp 0 cp kl fa fs fc k fn [] G (fun W' h' => HFI.out W' (hW.trans h')) (fun h0 => by omega) (fun _ => HGI.out.1 hf) (fun h0 => by omega) (Nat.zero_le _)
              · obtain ⟨i, hi, him, hig⟩ := HGI.out.2 (by omega)
                refine rget13_any W n m gf 0 cf gp 0 cp kl fa fs fc k fn (chunk M p i) G (fun W' h' => HFI.out W' (hW.trans h')) (fun _ W' h' => ?_) (fun h0 => by omega) (fun _ => hig.symm) (by have h1 := length_chunk M p i; have := HG.out.n2; omega)
                have h1 := rpart_any W' gf 0 cf gp 0 cp fa fs fc M p q i (HRT9.out.stay0 (hW.trans h')) him hp1 HMS.out HMN.out (by have := HG.out.n2; omega) (by have := HG.out.sz; omega) hcf'.out hcp'.out
                rw [← HMC.out, ← HKL.out, ← HNL.out] at h1
                rw [hi]
                exact h1)
            clear hj hfn hgi
            refine (HRG.out wb HSB.out).mono ?_
            rintro y w11 ⟨rfl, s11⟩
            have HSC := Lib.hid (HSB.out.trans s11)
            have HBX11 := Lib.hid (HBX8.out.stay0 s11)
            have HBY := Lib.hid (Box.new w11 ⟨[], [], false⟩)
            have HAY := Lib.hid (show Stay (fun _ => False) w11 (w11.alloc (.cells (enC ⟨[], [], false⟩).toArray 27)) from Stay.alloc _ _)
            obtain ⟨bz, hbz⟩ : ∃ bz, bz = w11.heap.size := ⟨_, rfl⟩
            rw [← hbz] at HBY
            have HBZ := Lib.hid hbz
            obtain ⟨wd, hwd⟩ : ∃ wd, w11.alloc (.cells (enC ⟨[], [], false⟩).toArray 27) = wd := ⟨_, rfl⟩
            rw [hwd] at HBY HAY
            have WD := Lib.hid hwd
            clear s11 hbz hwd HA HBX WA HBX8
            go_wp2_with (first
              | ((with_reducible refine Me.alloc_en rfl rfl ?_); rw [WD.out, ← HBZ.out])
              | ((with_reducible refine Me.at_op (.store 27 (.tmp 18) (.tmp 99)) rfl ?_); refine Box.store HBY.out rfl (.tmp 18) (.tmp 99) rfl rfl e rfl ?_
                 intro we hbe hse
                 have HBE := Lib.hid hbe
                 have hs12 := stay_seal ((HAY.out.mono (fun _ x => x.elim)).trans hse) (fun k hk => by have hk' : k = bz := hk; have := HBZ.out; omega)
                 have HBX12 := Lib.hid (HBX11.out.stay0 hs12)
                 have HSE := Lib.hid (HSC.out.trans hs12)
                 clear hbe hse hs12))
            obtain ⟨D, hDd⟩ : ∃ D : World → Prop, D = Stay (fun _ => False) we := ⟨_, rfl⟩
            have HD := Lib.hid (show ∀ W, D W → Stay (fun _ => False) we W by intro W h; rw [hDd] at h; exact h)
            have HDm := Lib.hid (show ∀ W, Stay (fun _ => False) we W → D W by intro W h; rw [hDd]; exact h)
            clear hDd
            have HN0 := Lib.hid (HDm.out _ (Stay.drew (w := we)))
            haveI : Nonempty (InC D) := ⟨⟨_, HN0.out⟩⟩
            have HR1 := Lib.hid (show ∀ i : InC D, (loadVar 46 ⟨tb, 0, none⟩).run Tryz.prog i.w = .ok (RT n m gf 0 cf gp 0 cp kl fa fs fc) i.w from fun i => HRUN9.out _ (HSE.out.trans (HD.out _ i.h)))
            have HR2 := Lib.hid (show ∀ i : InC D, (loadVar 27 ⟨bx, 0, none⟩).run Tryz.prog i.w = .ok (enV e) i.w from fun i => (HBX12.out.stay0 (HD.out _ i.h)).run_load)
            have HR3 := Lib.hid (show ∀ i : InC D, (loadVar 27 ⟨bz, 0, none⟩).run Tryz.prog i.w = .ok (enV e) i.w from fun i => (HBE.out.stay0 (HD.out _ i.h)).run_load)
            have H1 := Lib.hid (show ∀ W, D W → Calls Tryz.prog 13 #[.pointer (some ⟨t, 0, none⟩), .string ⟨k.toArray⟩] W fun e w' => e = .returned (.int .i64 fn) ∧ D w' from fun W hW =>
              (find_any W t p q M k (HT9.out.stay0 (HSE.out.trans (HD.out _ hW))) HKK.out).mono fun e w' h => by
                obtain ⟨⟨j', hj', rfl⟩, h4⟩ := h
                rw [hj'.uniq HJ.out, ← HFN.out]
                exact ⟨rfl, HDm.out _ ((HD.out _ hW).trans h4)⟩)
            have H2 := Lib.hid (show ∀ W, D W → Calls Tryz.prog 14 #[RT n m gf 0 cf gp 0 cp kl fa fs fc, .string ⟨k.toArray⟩] W fun e w' => e = .returned (.int .i64 fn) ∧ D w' from fun W hW =>
              (HFI.out W (HSE.out.trans (HD.out _ hW))).mono fun e w' ⟨h3, h4⟩ => ⟨h3, HDm.out _ ((HD.out _ hW).trans h4)⟩)
            have HALL := Lib.hid (show Stay (fun _ => False) w we from (HSW.out.trans HS9.out).trans HSE.out)
            have H3 := Lib.hid (show ∀ W, D W → Calls Tryz.prog 15 #[.nilIface] W fun e w' => e = .returned (.int .i64 0) ∧ D w' from fun W hW =>
              (Pk.num_any 0 W (Pk.ErrCell.stay0 HGE.out (HALL.out.trans (HD.out _ hW))) _ (by simp)).mono fun e w' ⟨h3, h4⟩ => ⟨h3, HDm.out _ ((HD.out _ hW).trans h4)⟩)
            have H4 := Lib.hid (show ∀ W, D W → Calls Tryz.prog 6 #[] W fun e w' => e = .returned (.bool true) ∧ D w' from fun W hW => (sure_any W).mono fun e w' ⟨h3, h4⟩ => ⟨h3, HDm.out _ ((HD.out _ hW).trans h4)⟩)
            have hff : (fn == fn) = true := beq_self_eq_true fn
            have hgg : (gs == gs) = true := beq_self_eq_true gs
            refine wp_region_class D HN0.out (by kernel_rfl) (by kernel_rfl) ?_
            try go_frame
            repeat (first
              | (refine Me.quiet_loadG (by rfl) 46 (.tmp 13) rfl ⟨tb, 0, none⟩ rfl (RT n m gf 0 cf gp 0 cp kl fa fs fc) HR1.out ?_; go_frame)
              | (refine Me.quiet_loadG (by rfl) 27 (.tmp 15) rfl ⟨bx, 0, none⟩ rfl (enV e) HR2.out ?_; go_frame)
              | (refine Me.quiet_loadG (by rfl) 27 (.tmp 18) rfl ⟨bz, 0, none⟩ rfl (enV e) HR3.out ?_; go_frame)
              | (refine quiet_eq_en (by rfl) (.tmp 110) (.tmp 111) rfl e rfl rfl ?_; go_frame)
              | (go_big_quiet_step ((first
                  | with_reducible exact calls_class H1.out
                  | with_reducible exact calls_class H2.out
                  | with_reducible exact calls_class H3.out
                  | with_reducible exact calls_class H4.out))))
            refine wpQuiet_nil ?_
            rintro W ⟨iw, rfl⟩
            have HF := Lib.hid (HALL.out.trans (HD.out _ iw.h))
            go_wp2
            go_ret
            exact ⟨rfl, HF.out⟩
    · skip
      have hml : (putsL L j).length ≤ 40 := by have := Me.putsL_len L j; omega
      obtain ⟨M, hM⟩ : ∃ M, M = putsL L j := ⟨_, rfl⟩
      have hMs : Sorted M := hM ▸ Me.putsL_sorted L j
      have hMn : ∀ e ∈ M, norm e = e := hM ▸ norm_puts L j
      have hMh : Short M := hM ▸ Me.short_puts HSH.out j
      have hMz : sizeL M ≤ M.length * 281474976702464 := Me.short_size hMh
      rw [← hM] at hv HM hml
      clear hM
      obtain ⟨n, hn⟩ : ∃ n, n = M.length := ⟨_, rfl⟩
      have HNL := Lib.hid hn
      have HMS := Lib.hid hMs
      have HMN := Lib.hid hMn
      have HMH := Lib.hid hMh
      obtain ⟨av, cv, rfl⟩ := hv.out.form
      rw [← hn] at hv hml hMz ⊢
      have hnm : (n : Int) ≤ 40 := by omega
      have HSZ := Lib.hid (show Calls Tryz.prog 5 #[.slice av n cv] wr fun e w' => e = .returned (.int .i64 (sizeL M : Int)) ∧ Stay (fun _ => False) wr w' from Me.rsize_any wr _ M hv.out (by omega))
      clear hn hMs hMn hMh
      by_cases h0 : n = 0
      · have hn0 : ((n : Int) == 0) = true := by simp [h0]
        go_wp2_with fail
        refine (sure_any wr).mono ?_
        rintro e w3 ⟨rfl, s3⟩
        have HF := Lib.hid (HS.out.trans s3)
        clear s3
        go_wp2
        go_ret
        exact ⟨rfl, HSW.out.trans HF.out⟩
      · have hn0 : ((n : Int) == 0) = false := beq_eq_false_iff_ne.2 (by omega)
        go_wp2_with fail
        refine HSZ.out.mono ?_
        rintro e w3 ⟨rfl, s3⟩
        have HS3 := Lib.hid (HS.out.trans s3)
        have hv3 := Lib.hid (hv.out.stay0 s3)
        have HB3 := Lib.hid (HW0.out.stay0 HS3.out)
        clear s3
        obtain ⟨sz, hsz⟩ : ∃ sz, sz = sizeL M := ⟨_, rfl⟩
        have HZ := Lib.hid hsz
        rw [← hsz]
        clear hsz
        by_cases hbig : 10000 < sz
        · go_wp2_with fail
          refine (sure_any w3).mono ?_
          rintro e w4 ⟨rfl, s4⟩
          have HF := Lib.hid (HS3.out.trans s4)
          clear s4
          go_wp2
          go_ret
          exact ⟨rfl, HSW.out.trans HF.out⟩
        · obtain ⟨p, hp, hp1, hp9⟩ : ∃ k : Nat, wrap64 (1 + wrap64 ((IntKind.u64.wrap x0).tmod 4)) = (k : Int) ∧ 1 ≤ k ∧ k ≤ 4 := small_modF x0 4 (by omega) (by omega)
          obtain ⟨q, hq, hq1, hq16⟩ : ∃ k : Nat, wrap64 (1 + wrap64 ((IntKind.u64.wrap x1).tmod 8)) = (k : Int) ∧ 1 ≤ k ∧ k ≤ 8 := small_modF x1 8 (by omega) (by omega)
          have HPP := Lib.hid hp
          have HQQ := Lib.hid hq
          have HZ0 := Lib.hid HB3.out.c0
          have HZ1 := Lib.hid HB3.out.c1
          have hqn : q * M.length ≤ 8 * 40 := Nat.mul_le_mul hq16 (by rw [← HNL.out]; exact hml)
          have hG : Good M p q := ⟨hp1, hq1, by have := HNL.out; omega, by have := HNL.out; omega, HMS.out, HMN.out, by have := HZ.out; omega, by omega⟩
          have hTL : (tabB M p q).length ≤ 1048576 := by
            have h1 := length_tabB (L := M) (p := p) (q := q) hp1 (by omega)
            have h2 := HNL.out
            have h3 := HZ.out
            omega
          have HG := Lib.hid hG
          have HTL := Lib.hid hTL
          clear hp hq hG hTL hqn
          go_wp2
          refine wp_region_held (S := Stay (fun _ => False) w3.drew) (by kernel_rfl) ?_
          change wpAnyH _ _ _ _ _ _ _ _ (World.drew _)
          have hst : Stay (fun _ => False) w3 w3.drew := Stay.drew
          refine wpAnyH_takeL (i := 0) (v := .slice av n cv) #[true, false, false, false, false, false, false, false, false, false, false, false, false, false, false, false, false, false, false, false] rfl (by kernel_rfl) (by kernel_rfl) (by kernel_rfl) (fun _ _ _ h => h) (by kernel_rfl) (Stay.refl _ _) (Or.inl ⟨by rfl, fun W hW => ?_⟩) ?_
          · go_simp
          conv => arg 8; simp [Act.put]
          refine wpAnyH_takeL (i := 2) (v := .pointer (some ⟨b, 0, none⟩)) #[true, false, true, false, false, false, false, false, false, false, false, false, false, false, false, false, false, false, false, false] rfl (by kernel_rfl) (by kernel_rfl) (by kernel_rfl) (fun _ _ _ h => h) (by kernel_rfl) (Stay.refl _ _) (Or.inl ⟨by rfl, fun W hW => ?_⟩) ?_
          · go_simp
          conv => arg 8; simp [Act.put]
          refine wpAnyH_takeL (i := 3) (v := .int .i64 x0) #[true, false, true, true, false, false, false, false, false, false, false, false, false, false, false, false, false, false, false, false] rfl (by kernel_rfl) (by kernel_rfl) (by kernel_rfl) (fun _ _ _ h => h) (by kernel_rfl) (Stay.refl _ _) (Or.inl ⟨by rfl, fun W hW => ?_⟩) ?_
          · have kc := (hst.trans hW).cell HZ0.out (fun x => x)
            go_simp
          conv => arg 8; simp [Act.put]
          refine wpAnyH_takeL (i := 4) (v := .int .u64 (IntKind.u64.wrap x0)) #[true, false, true, true, true, false, false, false, false, false, false, false, false, false, false, false, false, false, false, false] rfl (by kernel_rfl) (by kernel_rfl) (by kernel_rfl) (fun _ _ _ h => h) (by kernel_rfl) (Stay.refl _ _) (Or.inl ⟨by rfl, fun W hW => ?_⟩) ?_
          · go_simp
          conv => arg 8; simp [Act.put]
          refine wpAnyH_takeL (i := 5) (v := .int .u64 ((IntKind.u64.wrap x0).tmod 4)) #[true, false, true, true, true, true, false, false, false, false, false, false, false, false, false, false, false, false, false, false] rfl (by kernel_rfl) (by kernel_rfl) (by kernel_rfl) (fun _ _ _ h => h) (by kernel_rfl) (Stay.refl _ _) (Or.inl ⟨by rfl, fun W hW => ?_⟩) ?_
          · go_simp
          conv => arg 8; simp [Act.put]
          refine wpAnyH_takeL (i := 6) (v := .int .i64 (wrap64 ((IntKind.u64.wrap x0).tmod 4))) #[true, false, true, true, true, true, true, false, false, false, false, false, false, false, false, false, false, false, false, false] rfl (by kernel_rfl) (by kernel_rfl) (by kernel_rfl) (fun _ _ _ h => h) (by kernel_rfl) (Stay.refl _ _) (Or.inl ⟨by rfl, fun W hW => ?_⟩) ?_
          · go_simp
            exact Bo.i64_wrap _
          conv => arg 8; simp [Act.put]
          refine wpAnyH_takeL (i := 7) (v := .int .i64 (p : Int)) #[true, false, true, true, true, true, true, true, false, false, false, false, false, false, false, false, false, false, false, false] rfl (by kernel_rfl) (by kernel_rfl) (by kernel_rfl) (fun _ _ _ h => h) (by kernel_rfl) (Stay.refl _ _) (Or.inl ⟨by rfl, fun W hW => ?_⟩) ?_
          · go_simp
            exact (Bo.i64_wrap _).trans HPP.out
          conv => arg 8; simp [Act.put]
          refine wpAnyH_takeL (i := 8) (v := .pointer (some ⟨b, 1, none⟩)) #[true, false, true, true, true, true, true, true, true, false, false, false, false, false, false, false, false, false, false, false] rfl (by kernel_rfl) (by kernel_rfl) (by kernel_rfl) (fun _ _ _ h => h) (by kernel_rfl) (Stay.refl _ _) (Or.inl ⟨by rfl, fun W hW => ?_⟩) ?_
          · go_simp
          conv => arg 8; simp [Act.put]
          refine wpAnyH_takeL (i := 9) (v := .int .i64 x1) #[true, false, true, true, true, true, true, true, true, true, false, false, false, false, false, false, false, false, false, false] rfl (by kernel_rfl) (by kernel_rfl) (by kernel_rfl) (fun _ _ _ h => h) (by kernel_rfl) (Stay.refl _ _) (Or.inl ⟨by rfl, fun W hW => ?_⟩) ?_
          · have kc := (hst.trans hW).cell HZ1.out (fun x => x)
            go_simp
          conv => arg 8; simp [Act.put]
          refine wpAnyH_takeL (i := 10) (v := .int .u64 (IntKind.u64.wrap x1)) #[true, false, true, true, true, true, true, true, true, true, true, false, false, false, false, false, false, false, false, false] rfl (by kernel_rfl) (by kernel_rfl) (by kernel_rfl) (fun _ _ _ h => h) (by kernel_rfl) (Stay.refl _ _) (Or.inl ⟨by rfl, fun W hW => ?_⟩) ?_
          · go_simp
          conv => arg 8; simp [Act.put]
          refine wpAnyH_takeL (i := 11) (v := .int .u64 ((IntKind.u64.wrap x1).tmod 8)) #[true, false, true, true, true, true, true, true, true, true, true, true, false, false, false, false, false, false, false, false] rfl (by kernel_rfl) (by kernel_rfl) (by kernel_rfl) (fun _ _ _ h => h) (by kernel_rfl) (Stay.refl _ _) (Or.inl ⟨by rfl, fun W hW => ?_⟩) ?_
          · go_simp
          conv => arg 8; simp [Act.put]
          refine wpAnyH_takeL (i := 12) (v := .int .i64 (wrap64 ((IntKind.u64.wrap x1).tmod 8))) #[true, false, true, true, true, true, true, true, true, true, true, true, true, false, false, false, false, false, false, false] rfl (by kernel_rfl) (by kernel_rfl) (by kernel_rfl) (fun _ _ _ h => h) (by kernel_rfl) (Stay.refl _ _) (Or.inl ⟨by rfl, fun W hW => ?_⟩) ?_
          · go_simp
            exact Bo.i64_wrap _
          conv => arg 8; simp [Act.put]
          refine wpAnyH_takeL (i := 13) (v := .int .i64 (q : Int)) #[true, false, true, true, true, true, true, true, true, true, true, true, true, true, false, false, false, false, false, false] rfl (by kernel_rfl) (by kernel_rfl) (by kernel_rfl) (fun _ _ _ h => h) (by kernel_rfl) (Stay.refl _ _) (Or.inl ⟨by rfl, fun W hW => ?_⟩) ?_
          · go_simp
            exact (Bo.i64_wrap _).trans HQQ.out
          conv => arg 8; simp [Act.put]
          refine wpAnyH_one #[true, true, true, true, true, true, true, true, true, true, true, true, true, true, false, false, false, false, false, false] (i := 1) rfl (by kernel_rfl) (by kernel_rfl) (fun K hK => ?_)
          go_simp
          go_wp2_with (go_at_call 8; refine (Me.own_any w3.drew _ M (hv3.out.stay0 hst) (by have := HNL.out; omega)).mono ?_; rintro e z1 ⟨v4, rfl, ho4, s⟩; have HE4 := Lib.hid ho4.ens; clear ho4)
          replace hst := hst.trans s
          refine hK _ _ s ?_
          clear hK
          conv => arg 8; simp [Act.put]
          refine wpAnyH_narrow (S' := Stay (fun _ => False) z1) (fun _ h => s.trans h) _ _ _ _ ?_
          clear s
          refine wpAnyH_one #[true, true, true, true, true, true, true, true, true, true, true, true, true, true, true, false, false, false, false, false] (i := 14) rfl (by kernel_rfl) (by kernel_rfl) (fun K hK => ?_)
          go_simp
          go_wp2_with (go_at_call 7; refine (build_ok z1 v4 M p q HE4.out HMS.out hp1 (by omega) hq1 (by omega) HG.out.n1 HG.out.n2 (by have := HG.out.sz; omega) HTL.out).mono ?_; rintro e z2 ⟨⟨v5, rfl, ho5⟩, s⟩; have HSL5 := Lib.hid ho5.slc; obtain ⟨a5, l5, c5, rfl⟩ : ∃ a l c, v5 = .slice a l c := (by obtain ⟨a, c, e⟩ := ho5.form; exact ⟨a, _, c, e⟩); clear ho5)
          replace hst := hst.trans s
          refine hK _ _ s ?_
          clear hK
          conv => arg 8; simp [Act.put]
          refine wpAnyH_narrow (S' := Stay (fun _ => False) z2) (fun _ h => s.trans h) _ _ _ _ ?_
          clear s
          refine wpAnyH_takeL (i := 15) (v := .tuple #[.slice a5 l5 c5, .nilIface]) #[true, true, true, true, true, true, true, true, true, true, true, true, true, true, true, true, false, false, false, false] rfl (by kernel_rfl) (by kernel_rfl) (by kernel_rfl) (fun _ _ _ h => h) (by kernel_rfl) (Stay.refl _ _) (Or.inl ⟨by rfl, fun W hW => ?_⟩) ?_
          · go_simp
          conv => arg 8; simp [Act.put]
          refine wpAnyH_takeL (i := 16) (v := .slice a5 l5 c5) #[true, true, true, true, true, true, true, true, true, true, true, true, true, true, true, true, true, false, false, false] rfl (by kernel_rfl) (by kernel_rfl) (by kernel_rfl) (fun _ _ _ h => h) (by kernel_rfl) (Stay.refl _ _) (Or.inl ⟨by rfl, fun W hW => ?_⟩) ?_
          · go_simp
          conv => arg 8; simp [Act.put]
          refine wpAnyH_takeL (i := 17) (v := .nilIface) #[true, true, true, true, true, true, true, true, true, true, true, true, true, true, true, true, true, true, false, false] rfl (by kernel_rfl) (by kernel_rfl) (by kernel_rfl) (fun _ _ _ h => h) (by kernel_rfl) (Stay.refl _ _) (Or.inl ⟨by rfl, fun W hW => ?_⟩) ?_
          · go_simp
          conv => arg 8; simp [Act.put]
          refine wpAnyH_takeL (i := 18) (v := .slice a5 l5 c5) #[true, true, true, true, true, true, true, true, true, true, true, true, true, true, true, true, true, true, true, false] rfl (by kernel_rfl) (by kernel_rfl) (by kernel_rfl) (fun _ _ _ h => h) (by kernel_rfl) (Stay.refl _ _) (Or.inl ⟨by rfl, fun W hW => ?_⟩) ?_
          · go_simp
          conv => arg 8; simp [Act.put]
          refine wpAnyH_takeL (i := 19) (v := .nilIface) #[true, true, true, true, true, true, true, true, true, true, true, true, true, true, true, true, true, true, true, true] rfl (by kernel_rfl) (by kernel_rfl) (by kernel_rfl) (fun _ _ _ h => h) (by kernel_rfl) (Stay.refl _ _) (Or.inl ⟨by rfl, fun W hW => ?_⟩) ?_
          · go_simp
          conv => arg 8; simp [Act.put]
          refine wpAnyH_done (by kernel_rfl) ?_ _
          have HS6 := Lib.hid (HS3.out.trans hst)
          have HOP := Lib.hid (open_any z2 _ M p q HSL5.out HG.out)
          have HSLZ := Lib.hid HSL5.out
          clear hst HE4 HSZ
          go_wp2_with fail
          refine HOP.out.mono ?_
          rintro e w7 ⟨⟨t, rfl, _, ht⟩, s7⟩
          have HS7 := Lib.hid (HS6.out.trans s7)
          have HT7 := Lib.hid ht
          have HRO := Lib.hid (ropen13_any w7 _ M p q (HSLZ.out.stay0 s7) HG.out)
          clear ht s7 HOP HSL5 HSLZ
          go_wp2_with fail
          refine HRO.out.mono ?_
          rintro e w8 ⟨⟨gf, cf, gp, cp, fa, fs, fc, rfl, hrt, hcf, hcp⟩, s8⟩
          obtain ⟨m, hm⟩ : ∃ m, m = cN M.length p := ⟨_, rfl⟩
          obtain ⟨kl, hkl⟩ : ∃ kl, kl = lastK M := ⟨_, rfl⟩
          have HMC := Lib.hid hm
          have HKL := Lib.hid hkl
          have hcf' := Lib.hid hcf
          have hcp' := Lib.hid hcp
          rw [← hm, ← hkl, ← HNL.out]
          have HT8 := Lib.hid (HT7.out.stay0 s8)
          have HRT := Lib.hid hrt
          have HS8 := Lib.hid (HS7.out.trans s8)
          obtain ⟨w9, hw9⟩ : ∃ w9, w8.alloc (.cells #[.int .i64 (n : Int), .slice (some ⟨gf, 0, none⟩) m cf, .slice (some ⟨gp, 0, none⟩) m cp, .string ⟨kl.toArray⟩, .int .i64 3, .slice fa fs fc] 46) = w9 := ⟨_, rfl⟩
          obtain ⟨tb, htb⟩ : ∃ tb, tb = w8.heap.size := ⟨_, rfl⟩
          have hs9 : Stay (fun _ => False) w8 w9 := hw9 ▸ Stay.alloc _ _
          have HRB9 := Lib.hid (show RBox w9 tb n m gf 0 cf gp 0 cp kl fa fs fc by rw [htb, ← hw9]; exact heap_alloc_new w8 _)
          have HT9 := Lib.hid (HT8.out.stay0 hs9)
          have HRT9 := Lib.hid (HRT.out.stay0 hs9)
          have HS9 := Lib.hid (HS8.out.trans hs9)
          have W9 := Lib.hid hw9
          have HTB := Lib.hid htb
          clear hm hkl hcf hcp hrt s8 hw9 htb hs9 HT7 HT8 HRT HRO
          unfold RT
          go_wp2_with fail
          rw [W9.out, ← HTB.out]
          refine (get_any w9 t p q M k HT9.out HKK.out).mono ?_
          rintro y w10 ⟨rfl, s10⟩
          have HS10 := Lib.hid s10
          obtain ⟨G, hG⟩ : ∃ G, G = getL M k := ⟨_, rfl⟩
          have HGG := Lib.hid hG
          rw [← hG]
          have HBX := Lib.hid (Box.new w10 ⟨[], [], false⟩)
          have HA := Lib.hid (show Stay (fun _ => False) w10 (w10.alloc (.cells (enC ⟨[], [], false⟩).toArray 27)) from Stay.alloc _ _)
          obtain ⟨bx, hbx⟩ : ∃ bx, bx = w10.heap.size := ⟨_, rfl⟩
          rw [← hbx] at HBX
          have HBB := Lib.hid hbx
          obtain ⟨wa, hwa⟩ : ∃ wa, w10.alloc (.cells (enC ⟨[], [], false⟩).toArray 27) = wa := ⟨_, rfl⟩
          rw [hwa] at HBX HA
          have WA := Lib.hid hwa
          obtain ⟨e, he⟩ : ∃ e, e = entOf G := ⟨_, rfl⟩
          have HEG := Lib.hid he
          rw [← he]
          obtain ⟨gs, hgs⟩ : ∃ gs, gs = G.isSome := ⟨_, rfl⟩
          have HGS := Lib.hid hgs
          rw [← hgs]
          have HRUN9 := Lib.hid (show ∀ W, Stay (fun _ => False) w9 W → (loadVar 46 ⟨tb, 0, none⟩).run Tryz.prog W = .ok (RT n m gf 0 cf gp 0 cp kl fa fs fc) W from fun W hW => (HRB9.out.stay hW (fun x => x)).run)
          clear s10 hG hbx hwa he hgs
          go_wp2_with (first
            | ((with_reducible refine Me.alloc_en rfl rfl ?_); rw [WA.out, ← HBB.out])
            | ((with_reducible refine Me.at_op (.store 27 (.tmp 15) (.tmp 92)) rfl ?_); refine Box.store HBX.out rfl (.tmp 15) (.tmp 92) rfl rfl e rfl ?_
               intro wb hbb hsb
               have HBX8 := Lib.hid hbb
               have HSB := Lib.hid (show Stay (fun _ => False) w9 wb from HS10.out.trans (stay_seal ((HA.out.mono (fun _ x => x.elim)).trans hsb) (fun k hk => by have hk' : k = bx := hk; have := HBB.out; omega)))
               clear hbb hsb)
            | ((with_reducible refine Me.at_op (.load 46 (.tmp 13)) rfl ?_); refine Me.wpList_load_run (by rfl) 46 (.tmp 13) rfl ⟨tb, 0, none⟩ rfl _ (HRUN9.out _ HSB.out) ?_))
          obtain ⟨j, hj⟩ := isJ_ex M p k hp1 HMS.out
          have HJ := Lib.hid hj
          obtain ⟨fn, hfn⟩ : ∃ fn, fn = findN M p q k j := ⟨_, rfl⟩
          have HFN := Lib.hid hfn
          have hgi := get_is HMS.out hp1 hq1 hj (q := q)
          rw [← hfn, ← HGG.out] at hgi
          have HGI := Lib.hid hgi
          have HFI := Lib.hid (show ∀ W, Stay (fun _ => False) w9 W → Calls Tryz.prog 14 #[RT n m gf 0 cf gp 0 cp kl fa fs fc, .string ⟨k.toArray⟩] W fun e w' => e = .returned (.int .i64 fn) ∧ Stay (fun _ => False) W w' from fun W hW => by
            have h1 := rfind_any W gf 0 cf gp 0 cp fa fs fc M p q j k (HRT9.out.stay0 hW) hcf'.out (by have h2 := cN_le (n := M.length) hp1; have := HG.out.n2; omega) HJ.out hp1 HMS.out (Nat.mul_pos hq1 HG.out.n1) HG.out.qn (by have := HKK.out; omega)
            rw [← HMC.out, ← HKL.out, ← HNL.out, ← HFN.out] at h1
            exact h1)
          have HRG := Lib.hid (show ∀ W, Stay (fun _ => False) w9 W → Calls Tryz.prog 12 #[RT n m gf 0 cf gp 0 cp kl fa fs fc, .string ⟨k.toArray⟩] W fun y w' => y = .returned (.tuple #[enV e, .bool gs, .int .i64 0]) ∧ Stay (fun _ => False) W w' from fun W hW => by
            rw [HEG.out, HGS.out]
            by_cases hf : fn < 0
            · exact rget13_any W n m gf 0 cf gp 0 cp kl fa fs fc k fn [] G (fun W' h' => HFI.out W' (hW.trans h')) (fun h0 => by omega) (fun _ => HGI.out.1 hf) (fun h0 => by omega) (Nat.zero_le _)
            · obtain ⟨i, hi, him, hig⟩ := HGI.out.2 (by omega)
              refine rget13_any W n m gf 0 cf gp 0 cp kl fa fs fc k fn (chunk M p i) G (fun W' h' => HFI.out W' (hW.trans h')) (fun _ W' h' => ?_) (fun h0 => by omega) (fun _ => hig.symm) (by have h1 := length_chunk M p i; have := HG.out.n2; omega)
              have h1 := rpart_any W' gf 0 cf gp 0 cp fa fs fc M p q i (HRT9.out.stay0 (hW.trans h')) him hp1 HMS.out HMN.out (by have := HG.out.n2; omega) (by have := HG.out.sz; omega) hcf'.out hcp'.out
              rw [← HMC.out, ← HKL.out, ← HNL.out] at h1
              rw [hi]
              exact h1)
          clear hj hfn hgi
          refine (HRG.out wb HSB.out).mono ?_
          rintro y w11 ⟨rfl, s11⟩
          have HSC := Lib.hid (HSB.out.trans s11)
          have HBX11 := Lib.hid (HBX8.out.stay0 s11)
          have HBY := Lib.hid (Box.new w11 ⟨[], [], false⟩)
          have HAY := Lib.hid (show Stay (fun _ => False) w11 (w11.alloc (.cells (enC ⟨[], [], false⟩).toArray 27)) from Stay.alloc _ _)
          obtain ⟨bz, hbz⟩ : ∃ bz, bz = w11.heap.size := ⟨_, rfl⟩
          rw [← hbz] at HBY
          have HBZ := Lib.hid hbz
          obtain ⟨wd, hwd⟩ : ∃ wd, w11.alloc (.cells (enC ⟨[], [], false⟩).toArray 27) = wd := ⟨_, rfl⟩
          rw [hwd] at HBY HAY
          have WD := Lib.hid hwd
          clear s11 hbz hwd HA HBX WA HBX8
          go_wp2_with (first
            | ((with_reducible refine Me.alloc_en rfl rfl ?_); rw [WD.out, ← HBZ.out])
            | ((with_reducible refine Me.at_op (.store 27 (.tmp 18) (.tmp 99)) rfl ?_); refine Box.store HBY.out rfl (.tmp 18) (.tmp 99) rfl rfl e rfl ?_
               intro we hbe hse
               have HBE := Lib.hid hbe
               have hs12 := stay_seal ((HAY.out.mono (fun _ x => x.elim)).trans hse) (fun k hk => by have hk' : k = bz := hk; have := HBZ.out; omega)
               have HBX12 := Lib.hid (HBX11.out.stay0 hs12)
               have HSE := Lib.hid (HSC.out.trans hs12)
               clear hbe hse hs12))
          obtain ⟨D, hDd⟩ : ∃ D : World → Prop, D = Stay (fun _ => False) we := ⟨_, rfl⟩
          have HD := Lib.hid (show ∀ W, D W → Stay (fun _ => False) we W by intro W h; rw [hDd] at h; exact h)
          have HDm := Lib.hid (show ∀ W, Stay (fun _ => False) we W → D W by intro W h; rw [hDd]; exact h)
          clear hDd
          have HN0 := Lib.hid (HDm.out _ (Stay.drew (w := we)))
          haveI : Nonempty (InC D) := ⟨⟨_, HN0.out⟩⟩
          have HR1 := Lib.hid (show ∀ i : InC D, (loadVar 46 ⟨tb, 0, none⟩).run Tryz.prog i.w = .ok (RT n m gf 0 cf gp 0 cp kl fa fs fc) i.w from fun i => HRUN9.out _ (HSE.out.trans (HD.out _ i.h)))
          have HR2 := Lib.hid (show ∀ i : InC D, (loadVar 27 ⟨bx, 0, none⟩).run Tryz.prog i.w = .ok (enV e) i.w from fun i => (HBX12.out.stay0 (HD.out _ i.h)).run_load)
          have HR3 := Lib.hid (show ∀ i : InC D, (loadVar 27 ⟨bz, 0, none⟩).run Tryz.prog i.w = .ok (enV e) i.w from fun i => (HBE.out.stay0 (HD.out _ i.h)).run_load)
          have H1 := Lib.hid (show ∀ W, D W → Calls Tryz.prog 13 #[.pointer (some ⟨t, 0, none⟩), .string ⟨k.toArray⟩] W fun e w' => e = .returned (.int .i64 fn) ∧ D w' from fun W hW =>
            (find_any W t p q M k (HT9.out.stay0 (HSE.out.trans (HD.out _ hW))) HKK.out).mono fun e w' h => by
              obtain ⟨⟨j', hj', rfl⟩, h4⟩ := h
              rw [hj'.uniq HJ.out, ← HFN.out]
              exact ⟨rfl, HDm.out _ ((HD.out _ hW).trans h4)⟩)
          have H2 := Lib.hid (show ∀ W, D W → Calls Tryz.prog 14 #[RT n m gf 0 cf gp 0 cp kl fa fs fc, .string ⟨k.toArray⟩] W fun e w' => e = .returned (.int .i64 fn) ∧ D w' from fun W hW =>
            (HFI.out W (HSE.out.trans (HD.out _ hW))).mono fun e w' ⟨h3, h4⟩ => ⟨h3, HDm.out _ ((HD.out _ hW).trans h4)⟩)
          have HALL := Lib.hid (show Stay (fun _ => False) w we from (HSW.out.trans HS9.out).trans HSE.out)
          have H3 := Lib.hid (show ∀ W, D W → Calls Tryz.prog 15 #[.nilIface] W fun e w' => e = .returned (.int .i64 0) ∧ D w' from fun W hW =>
            (Pk.num_any 0 W (Pk.ErrCell.stay0 HGE.out (HALL.out.trans (HD.out _ hW))) _ (by simp)).mono fun e w' ⟨h3, h4⟩ => ⟨h3, HDm.out _ ((HD.out _ hW).trans h4)⟩)
          have H4 := Lib.hid (show ∀ W, D W → Calls Tryz.prog 6 #[] W fun e w' => e = .returned (.bool true) ∧ D w' from fun W hW => (sure_any W).mono fun e w' ⟨h3, h4⟩ => ⟨h3, HDm.out _ ((HD.out _ hW).trans h4)⟩)
          have hff : (fn == fn) = true := beq_self_eq_true fn
          have hgg : (gs == gs) = true := beq_self_eq_true gs
          refine wp_region_class D HN0.out (by kernel_rfl) (by kernel_rfl) ?_
          try go_frame
          repeat (first
            | (refine Me.quiet_loadG (by rfl) 46 (.tmp 13) rfl ⟨tb, 0, none⟩ rfl (RT n m gf 0 cf gp 0 cp kl fa fs fc) HR1.out ?_; go_frame)
            | (refine Me.quiet_loadG (by rfl) 27 (.tmp 15) rfl ⟨bx, 0, none⟩ rfl (enV e) HR2.out ?_; go_frame)
            | (refine Me.quiet_loadG (by rfl) 27 (.tmp 18) rfl ⟨bz, 0, none⟩ rfl (enV e) HR3.out ?_; go_frame)
            | (refine quiet_eq_en (by rfl) (.tmp 110) (.tmp 111) rfl e rfl rfl ?_; go_frame)
            | (go_big_quiet_step ((first
                | with_reducible exact calls_class H1.out
                | with_reducible exact calls_class H2.out
                | with_reducible exact calls_class H3.out
                | with_reducible exact calls_class H4.out))))
          refine wpQuiet_nil ?_
          rintro W ⟨iw, rfl⟩
          have HF := Lib.hid (HALL.out.trans (HD.out _ iw.h))
          go_wp2
          go_ret
          exact ⟨rfl, HF.out⟩
end Go.Proofs.YtahfgoafiepioaaGreatDoor.Tb
