/-
  table: whether a table's numbers and keys can be.
-/
import Derived.Test.YtahfgoafiepioaaGreatDoorTbI
namespace Go.Proofs.YtahfgoafiepioaaGreatDoor.Tb
open Go.RowKit
open Pk (stay_seal)
open Me (En EnS EnO Box enC enV norm ltB Sorted getL posN hasB sizeL)
open Pk (Slc)
set_option maxRecDepth 100000
set_option linter.unusedVariables false

theorem form1_any (w : World) (q : Pc) (a0 : Option Addr) (n c : Nat) (hq : q.x = .slice a0 n c) : Calls Tryz.prog 74 #[pcV q] w fun x w' => x = .returned (.string ⟨q.k.toArray⟩) ∧ Stay (fun _ => False) w w' := by
  obtain ⟨k, b, x⟩ := q
  dsimp only at hq
  subst hq
  have h2 : (w.alloc (.cells (pcC ⟨k, b, .slice a0 n c⟩).toArray 78)).cell? ⟨w.heap.size, 0, none⟩ = some (.string ⟨k.toArray⟩) := by
    rw [cell_of_row _ w.heap.size 0 _ _ _ (heap_alloc_new w _)]
    rfl
  have H2 := Lib.hid (show Stay (fun _ => False) w (w.alloc (.cells (pcC ⟨k, b, .slice a0 n c⟩).toArray 78)) from Stay.alloc _ _)
  unfold pcV pcC at *
  go_enter Tryz.func74, Tryz.ntmps74
  go_wp2
  go_ret
  exact ⟨rfl, H2.out⟩

theorem pc_at {w : World} {p : Nat} {L : List En} {g : Nat} (hc : ∀ i, i < cN L.length p → w.cell? ⟨g, i * 2, none⟩ = some (Me.strV (keyAt L (i * p))) ∧ ∃ x, w.cell? ⟨g, i * 2 + 1, none⟩ = some x ∧ Slc w x (partB (chunk L p i))) {i : Nat} (hi : i < cN L.length p) :
    ∃ r : Pc, r.k = keyAt L (i * p) ∧ (∃ a0 n c, r.x = .slice a0 n c) ∧ ∀ W, Stay (fun _ => False) w W → (loadVar 78 ⟨g, i * 2, none⟩).run Tryz.prog W = .ok (pcV r) W := by
  obtain ⟨h1, x, h2, h3⟩ := hc i hi
  obtain ⟨a0, c0, e, _⟩ := h3
  refine ⟨⟨keyAt L (i * p), [], x⟩, rfl, ⟨a0, _, c0, e⟩, fun W hW => run_load_pc (fun j u hu => ?_)⟩
  match j, hu with
  | 0, hu => cases hu; exact hW.cell h1 (fun x => x)
  | 1, hu => cases hu; exact hW.cell h2 (fun x => x)

set_option maxHeartbeats 4000000 in
theorem ascp_any (w : World) (L : List En) (p g c : Nat) (hp : 1 ≤ p) (hs : Sorted L) (hl : cN L.length p ≤ 1000000)
    (hc : ∀ i, i < cN L.length p → w.cell? ⟨g, i * 2, none⟩ = some (Me.strV (keyAt L (i * p))) ∧ ∃ x, w.cell? ⟨g, i * 2 + 1, none⟩ = some x ∧ Slc w x (partB (chunk L p i))) :
    Calls Tryz.prog 73 #[.slice (some ⟨g, 0, none⟩) (cN L.length p) c, .func (.func 74) #[] #[]] w fun e w' => e = .returned (.bool true) ∧ Stay (fun _ => False) w w' := by
  have HK := Lib.hid (show ∀ i, i + 1 < cN L.length p → ltB (keyAt L (i * p)) (keyAt L ((i + 1) * p)) = true from fun i hi => by
    have h1 := (cN_lt (n := L.length) hp).1 hi
    refine key_lt hs ?_ h1
    rw [Nat.add_mul]
    omega)
  have HP := Lib.hid (fun i (hi : i < cN L.length p) => pc_at hc hi)
  generalize cN L.length p = n at *
  have hlc : (n : Int) ≤ 1000000 := by omega
  clear hc hl
  go_enter Tryz.func73, Tryz.ntmps73
  go_wp2
  go_loopw [5] (fun i wr => ∃ k : Nat, i = .int .i64 ((k : Int) + 1) ∧ k ≤ n ∧ Stay (fun _ => False) w wr) (fun i _ => n + 1 - (intOf i).toNat)
  case atStart => exact ⟨0, rfl, Nat.zero_le _, Stay.refl _ _⟩
  case round =>
    obtain ⟨k, rfl, hk, hst⟩ := hrel
    have HS := Lib.hid hst
    clear hst
    by_cases hlt : k + 1 < n
    · obtain ⟨r1, hk1, ⟨x1, n1, c1, hx1⟩, hr1⟩ := HP.out k (by omega)
      obtain ⟨r2, hk2, ⟨x2, n2, c2, hx2⟩, hr2⟩ := HP.out (k + 1) hlt
      have hlt3 := HK.out k hlt
      rw [← hk1, ← hk2] at hlt3
      obtain ⟨D, hDd⟩ : ∃ D : World → Prop, D = Stay (fun _ => False) wr := ⟨_, rfl⟩
      have HD := Lib.hid (show ∀ W, D W → Stay (fun _ => False) wr W by intro W h; rw [hDd] at h; exact h)
      have HDm := Lib.hid (show ∀ W, Stay (fun _ => False) wr W → D W by intro W h; rw [hDd]; exact h)
      clear hDd
      have HN0 := Lib.hid (HDm.out _ (Stay.drew (w := wr)))
      have k1 := fun i : InC D => hr1 _ (HS.out.trans (HD.out _ i.h))
      have k2 := fun i : InC D => hr2 _ (HS.out.trans (HD.out _ i.h))
      have H1 := Lib.hid (show ∀ W, D W → Calls Tryz.prog 74 #[pcV r1] W fun e w' => e = .returned (.string ⟨r1.k.toArray⟩) ∧ D w' from fun W h => (form1_any W r1 _ _ _ hx1).mono fun e w' ⟨h1, h2⟩ => ⟨h1, HDm.out _ ((HD.out _ h).trans h2)⟩)
      have H2 := Lib.hid (show ∀ W, D W → Calls Tryz.prog 74 #[pcV r2] W fun e w' => e = .returned (.string ⟨r2.k.toArray⟩) ∧ D w' from fun W h => (form1_any W r2 _ _ _ hx2).mono fun e w' ⟨h1, h2⟩ => ⟨h1, HDm.out _ ((HD.out _ h).trans h2)⟩)
      clear hr1 hr2 hk1 hk2 hx1 hx2
      haveI : Nonempty (InC D) := ⟨⟨_, HN0.out⟩⟩
      go_wp2
      refine wp_region_class D HN0.out (by kernel_rfl) (by kernel_rfl) ?_
      repeat (go_big_quiet_step ((first
        | with_reducible exact calls_class H1.out
        | with_reducible exact calls_class H2.out)))
      refine quiet_load rfl 78 (.tmp 15) rfl ⟨g, (k + 1) * 2, none⟩ rfl _ k2 ?_
      go_frame
      repeat (go_big_quiet_step ((first
        | with_reducible exact calls_class H1.out
        | with_reducible exact calls_class H2.out)))
      refine quiet_load rfl 78 (.tmp 22) rfl ⟨g, k * 2, none⟩ rfl _ k1 ?_
      go_frame
      repeat (go_big_quiet_step ((first
        | with_reducible exact calls_class H1.out
        | with_reducible exact calls_class H2.out)))
      refine wpQuiet_nil ?_
      rintro W ⟨i, rfl⟩
      have hst := HD.out _ i.h
      clear k1 k2
      generalize i.w = w9 at *
      have HS9 := Lib.hid (HS.out.trans hst)
      clear hst
      rw [leq_not, hlt3]
      rw [show (!true) = false from rfl]
      go_wp2
      go_roundw
      case rel => exact ⟨k + 1, by go_num, by omega, HS9.out⟩
      case measure => simp [intOf]; omega
    · go_wp2
      go_ret
      exact ⟨rfl, HS.out⟩

set_option maxHeartbeats 4000000 in
theorem formed_any (w : World) (t p q : Nat) (L : List En) (h : TAt w t L p q) : Calls Tryz.prog 31 #[.pointer (some ⟨t, 0, none⟩)] w fun e w' => e = .returned (.bool true) ∧ Stay (fun _ => False) w w' := by
  obtain ⟨g, c, hcb, hp1, hpc⟩ := h.parts
  have hc0 := h.c0
  have hc2 := h.c2
  have hcp := cN_pos h.p1 h.n1
  have hle := cN_le (n := L.length) h.p1
  have hn2 := h.n2
  obtain ⟨n1, hn1⟩ : ∃ n1, cN L.length p = n1 + 1 := ⟨cN L.length p - 1, by omega⟩
  have hf := (hpc n1 (by omega)).1
  obtain ⟨kf, hkf⟩ : ∃ kf, kf = keyAt L (n1 * p) := ⟨_, rfl⟩
  obtain ⟨kl, hkl⟩ : ∃ kl, kl = lastK L := ⟨_, rfl⟩
  have hlt : Op.bytesLess kl kf = false := by
    rw [Me.less_eq, hkl, hkf]
    have h1 := (cN_lt (n := L.length) (i := n1) h.p1).1 (by omega)
    exact key_le h.srt (by omega) (by omega)
  rw [← hkl] at hc2
  rw [← hkf] at hf
  have HAS := Lib.hid (show ∀ W, Stay (fun _ => False) w W → Calls Tryz.prog 73 #[.slice (some ⟨g, 0, none⟩) (n1 + 1) c, .func (.func 74) #[] #[]] W fun e w' => e = .returned (.bool true) ∧ Stay (fun _ => False) W w' from fun W hW => by
    have := ascp_any W L p g c h.p1 h.srt hcb (fun i hi => by
      obtain ⟨h1, x, h2, h3⟩ := hpc i hi
      exact ⟨hW.cell h1 (fun x => x), x, hW.cell h2 (fun x => x), h3.stay0 hW⟩)
    rw [hn1] at this
    exact this)
  rw [hn1] at hp1 hle hcb
  generalize L.length = n at *
  have hnm : (n : Int) ≤ 1000000 := by omega
  have hn1m : (n1 : Int) ≤ 1000000 := by omega
  have hnn : (n1 : Int) + 1 ≤ n := by omega
  have hw1 : IntKind.i64.wrap (n1 : Int) = (n1 : Int) := IntWalk.i64_in _ (by omega)
  have hq1 : decide ((n1 : Int) + 1 < 1) = false := decide_eq_false (by omega)
  have hq2 : decide ((n : Int) < (n1 : Int) + 1) = false := decide_eq_false (by omega)
  clear hpc hkf hkl hn1 h hcp
  go_enter Tryz.func31, Tryz.ntmps31
  go_wp2
  go_quiet (fail)
  go_wp2_with fail
  refine (HAS.out _ (Pk.stay_drewN _ _)).mono ?_
  rintro e w2 ⟨rfl, hs2⟩
  have HS2 := Lib.hid ((Pk.stay_drewN (X := fun _ => False) w nq).trans hs2)
  clear hs2
  go_wp2
  go_ret
  exact ⟨rfl, HS2.out⟩
end Go.Proofs.YtahfgoafiepioaaGreatDoor.Tb
