/-
  delta's laws: parts held against each other.
-/
import Derived.Test.YtnlknnhibnfhcaaDeI
import Derived.Test.YtnlknnhibnfhcaaClass
namespace Go.Proofs.Ytnlknnhibnfhcaa.De
open Go.RowKit Pk
set_option maxRecDepth 100000

set_option maxHeartbeats 2000000 in
theorem same_any (w : World) (v1 v2 : Value) (L1 L2 : List Po) (h1 : PsAt w v1 L1) (h2 : PsAt w v2 L2) (he : L1.map Po.p = L2.map Po.p) :
    Calls Try.prog 10 #[v1, v2] w fun e w' => e = .returned (.bool true) ∧ Stay (fun _ => False) w w' := by
  have hlen : L2.length = L1.length := by rw [← List.length_map (f := Po.p), ← he, List.length_map]
  have HV1 := Lib.hid h1
  have HV2 := Lib.hid h2
  have HE := Lib.hid he
  have HLEN := Lib.hid hlen
  obtain ⟨a1, c1, rfl, hc1, hc2, hcell1⟩ := h1.ex
  obtain ⟨a2, c2, rfl, _, _, hcell2⟩ := h2.ex
  have HC1 := Lib.hid hcell1
  have HC2 := Lib.hid hcell2
  rw [hlen]
  have hself : ((L1.length : Int) == (L1.length : Int)) = true := beq_self_eq_true _
  clear h1 h2 he hcell1 hcell2 hlen
  go_enter Try.func10, Try.ntmps10
  go_wp2
  go_loopw [5] (fun i wr => ∃ k : Nat, k ≤ L1.length ∧ i = .int .i64 (k : Int) ∧ Stay (fun _ => False) w wr) (fun i _ => L1.length - (intOf i).toNat)
  case atStart => exact ⟨0, Nat.zero_le _, rfl, Stay.refl _ _⟩
  case round =>
    obtain ⟨k, hk, rfl, hst⟩ := hrel
    have HT := Lib.hid hst
    clear hst
    by_cases hlt : k < L1.length
    · obtain ⟨⟨q, x⟩, hq⟩ : ∃ q, L1[k]? = some q := ⟨_, List.getElem?_eq_getElem hlt⟩
      obtain ⟨⟨q2, y⟩, hq2⟩ : ∃ q, L2[k]? = some q := ⟨_, List.getElem?_eq_getElem (by rw [HLEN.out]; omega)⟩
      have hqq : q2 = q := by
        have e1 := map_at hq
        have e2 := map_at hq2
        rw [HE.out, e2] at e1
        exact Option.some.inj e1
      subst hqq
      obtain ⟨g1, o1, rfl, hcl1⟩ := HC1.out (by omega)
      obtain ⟨g2, o2, rfl, hcl2⟩ := HC2.out (by rw [HLEN.out]; omega)
      have hs1 : Slc w x q2.b := HV1.out.slc _ (List.mem_of_getElem? hq)
      have hs2 : Slc w y q2.b := HV2.out.slc _ (List.mem_of_getElem? hq2)
      obtain ⟨xa, xc, rfl⟩ := Slc.form hs1
      obtain ⟨ya, yc, rfl⟩ := Slc.form hs2
      have HCL1 := Lib.hid (hcl1 k _ hq)
      have HCL2 := Lib.hid (hcl2 k _ hq2)
      have HS1 := Lib.hid hs1
      have HS2 := Lib.hid hs2
      obtain ⟨D, hDd⟩ : ∃ D : World → Prop, D = Stay (fun _ => False) wr := ⟨_, rfl⟩
      have HD := Lib.hid (show ∀ W, D W → Stay (fun _ => False) w W by intro W h; rw [hDd] at h; exact HT.out.trans h)
      have HDm := Lib.hid (show ∀ W, Stay (fun _ => False) wr W → D W by intro W h; rw [hDd]; exact h)
      clear hDd hcl1 hcl2 hs1 hs2 hq hq2
      have HN0 := Lib.hid (HDm.out wr.drew Stay.drew)
      haveI : Nonempty (InC D) := ⟨⟨_, HN0.out⟩⟩
      obtain ⟨cp, f, n, b⟩ := q2
      dsimp only at *
      have k10 := fun i : InC D => show i.w.cell? ⟨g1, o1 + k * 4, none⟩ = some (.bool cp) from (HD.out _ i.h).cell (HCL1.out 0 _ rfl) (fun x => x)
      have k11 := fun i : InC D => show i.w.cell? ⟨g1, o1 + k * 4 + 1, none⟩ = some (.int .i64 f) from (HD.out _ i.h).cell (HCL1.out 1 _ rfl) (fun x => x)
      have k12 := fun i : InC D => show i.w.cell? ⟨g1, o1 + k * 4 + 2, none⟩ = some (.int .i64 n) from (HD.out _ i.h).cell (HCL1.out 2 _ rfl) (fun x => x)
      have k13 := fun i : InC D => show i.w.cell? ⟨g1, o1 + k * 4 + 3, none⟩ = some (.slice xa b.length xc) from (HD.out _ i.h).cell (HCL1.out 3 _ rfl) (fun x => x)
      have k20 := fun i : InC D => show i.w.cell? ⟨g2, o2 + k * 4, none⟩ = some (.bool cp) from (HD.out _ i.h).cell (HCL2.out 0 _ rfl) (fun x => x)
      have k21 := fun i : InC D => show i.w.cell? ⟨g2, o2 + k * 4 + 1, none⟩ = some (.int .i64 f) from (HD.out _ i.h).cell (HCL2.out 1 _ rfl) (fun x => x)
      have k22 := fun i : InC D => show i.w.cell? ⟨g2, o2 + k * 4 + 2, none⟩ = some (.int .i64 n) from (HD.out _ i.h).cell (HCL2.out 2 _ rfl) (fun x => x)
      have k23 := fun i : InC D => show i.w.cell? ⟨g2, o2 + k * 4 + 3, none⟩ = some (.slice ya b.length yc) from (HD.out _ i.h).cell (HCL2.out 3 _ rfl) (fun x => x)
      have cv1 := fun i : InC D => conv_slc (HS1.out.stay0 (HD.out _ i.h))
      have cv2 := fun i : InC D => conv_slc (HS2.out.stay0 (HD.out _ i.h))
      unfold strV at cv1 cv2
      go_wp2
      refine wp_region_class D HN0.out (by kernel_rfl) (by kernel_rfl) ?_
      try go_frame
      repeat (go_big_quiet_step (fail))
      refine wpQuiet_nil ?_
      rintro W ⟨i, rfl⟩
      have hs := HD.out _ i.h
      clear k10 k11 k12 k13 k20 k21 k22 k23 cv1 cv2
      generalize i.w = w9 at *
      go_wp2
      refine ⟨⟨k + 1, by omega, by go_num, hs⟩, by simp [intOf]; omega⟩
    · obtain rfl : k = L1.length := by omega
      go_wp2
      go_ret
      exact ⟨rfl, HT.out⟩
end Go.Proofs.Ytnlknnhibnfhcaa.De
