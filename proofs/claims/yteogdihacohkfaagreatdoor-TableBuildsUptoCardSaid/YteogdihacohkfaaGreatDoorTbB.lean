/-
  table: whether entries are in order; how many entries and parts; the first key and the last one.
-/
import Derived.Test.YteogdihacohkfaaGreatDoorTbA
namespace Go.Proofs.YteogdihacohkfaaGreatDoor.Tb
open Go.RowKit
open Me (En EnS EnO Box enC enV norm ltB Sorted getL posN hasB sizeL)
open Bo (FAt)
set_option maxRecDepth 100000
set_option linter.unusedVariables false

theorem keyOf_any (w : World) (e : En) : Calls Tryz.prog 24 #[enV e] w fun x w' => x = .returned (.string ⟨e.k.toArray⟩) ∧ Stay (fun _ => False) w w' := by
  have h2 := (Box.new w e).c (j := 0) rfl
  have H2 := Lib.hid (show Stay (fun _ => False) w (w.alloc (.cells (enC e).toArray 38)) from Stay.alloc _ _)
  unfold enV enC at *
  go_enter Tryz.func24, Tryz.ntmps24
  go_wp2
  go_ret
  exact ⟨rfl, H2.out⟩

/-- Not above, as the walk shows it. -/
theorem leq_not (p q : List UInt8) : (Op.bytesLess q p || q == p) = !(ltB p q) := by
  rw [Me.less_eq]
  cases h : ltB p q with
  | true =>
    rw [Me.lt_asymm h]
    simpa using fun e => Me.lt_ne h e.symm
  | false =>
    cases h2 : ltB q p with
    | true => rfl
    | false => rw [Me.lt_one h h2]; simp

/-- Whether each key is above the one ahead of it, up to the n-th. -/
def upB (L : List En) (n : Nat) : Prop := ∀ i, i + 1 < n → ltB (keyAt L i) (keyAt L (i + 1)) = true
theorem upB_all {L : List En} : upB L L.length ↔ Sorted L :=
  ⟨sorted_of_next, fun h i hi => key_lt h (by omega) hi⟩
instance (L : List En) : Decidable (Sorted L) := inferInstanceAs (Decidable (List.Pairwise _ L))

set_option maxHeartbeats 4000000 in
theorem asc_any (w : World) (x : Value) (L : List En) (hx : EnS w x L) (hl : L.length ≤ 1000000) :
    Calls Tryz.prog 23 #[x, .func (.func 24) #[] #[]] w fun e w' => e = .returned (.bool (decide (Sorted L))) ∧ Stay (fun _ => False) w w' := by
  have HX := Lib.hid hx
  obtain ⟨a0, c, rfl⟩ := hx.form
  obtain ⟨R, hR⟩ : ∃ R, R = decide (Sorted L) := ⟨_, rfl⟩
  have HT := Lib.hid (show upB L L.length → R = true by intro h; rw [hR]; exact decide_eq_true (upB_all.1 h))
  have HF := Lib.hid (show ∀ i, i + 1 < L.length → ltB (keyAt L i) (keyAt L (i + 1)) = false → R = false by
    intro i hi h
    rw [hR]
    refine decide_eq_false (fun hs => ?_)
    rw [upB_all.2 hs i hi] at h
    cases h)
  rw [← hR]
  have hlc : (L.length : Int) ≤ 1000000 := by omega
  clear hx hR hl
  go_enter Tryz.func23, Tryz.ntmps23
  go_wp2
  go_loopw [5] (fun i wr => ∃ k : Nat, i = .int .i64 ((k : Int) + 1) ∧ (k ≤ L.length) ∧ Hid (upB L (k + 1)) ∧ Stay (fun _ => False) w wr) (fun i _ => L.length + 1 - (intOf i).toNat)
  case atStart => exact ⟨0, rfl, Nat.zero_le _, Lib.hid (fun i hi => by omega), Stay.refl _ _⟩
  case round =>
    obtain ⟨k, rfl, hk, hb, hst⟩ := hrel
    have HS := Lib.hid hst
    clear hst
    by_cases hlt : k + 1 < L.length
    · obtain ⟨e1, he1, hk1⟩ := at_of (L := L) (i := k) (by omega)
      obtain ⟨e2, he2, hk2⟩ := at_of (L := L) (i := k + 1) hlt
      obtain ⟨g, o, rfl, _, hc⟩ := (HX.out.stay0 HS.out).at (by omega)
      obtain ⟨c0, c1, c2⟩ := hc _ e1 he1
      obtain ⟨d0, d1, d2⟩ := hc _ e2 he2
      obtain ⟨D, hDd⟩ : ∃ D : World → Prop, D = Stay (fun _ => False) wr := ⟨_, rfl⟩
      have HD := Lib.hid (show ∀ W, D W → Stay (fun _ => False) wr W by intro W h; rw [hDd] at h; exact h)
      have HDm := Lib.hid (show ∀ W, Stay (fun _ => False) wr W → D W by intro W h; rw [hDd]; exact h)
      clear hDd
      have HN0 := Lib.hid (HDm.out _ (Stay.drew (w := wr)))
      have k1 := fun i : InC D => Me.run_load_at ((HD.out _ i.h).cell c0 (fun x => x)) ((HD.out _ i.h).cell c1 (fun x => x)) ((HD.out _ i.h).cell c2 (fun x => x))
      have k2 := fun i : InC D => Me.run_load_at ((HD.out _ i.h).cell d0 (fun x => x)) ((HD.out _ i.h).cell d1 (fun x => x)) ((HD.out _ i.h).cell d2 (fun x => x))
      have H1 := Lib.hid (show ∀ W, D W → Calls Tryz.prog 24 #[enV e1] W fun e w' => e = .returned (.string ⟨e1.k.toArray⟩) ∧ D w' from fun W h => (keyOf_any W e1).mono fun e w' ⟨h1, h2⟩ => ⟨h1, HDm.out _ ((HD.out _ h).trans h2)⟩)
      have H2 := Lib.hid (show ∀ W, D W → Calls Tryz.prog 24 #[enV e2] W fun e w' => e = .returned (.string ⟨e2.k.toArray⟩) ∧ D w' from fun W h => (keyOf_any W e2).mono fun e w' ⟨h1, h2⟩ => ⟨h1, HDm.out _ ((HD.out _ h).trans h2)⟩)
      have K1 := Lib.hid hk1
      have K2 := Lib.hid hk2
      clear hc c0 c1 c2 d0 d1 d2 he1 he2 hk1 hk2
      haveI : Nonempty (InC D) := ⟨⟨_, HN0.out⟩⟩
      go_wp2
      refine wp_region_class D HN0.out (by kernel_rfl) (by kernel_rfl) ?_
      repeat (go_big_quiet_step ((first
        | with_reducible exact calls_class H1.out
        | with_reducible exact calls_class H2.out)))
      refine quiet_load rfl 38 (.tmp 15) rfl ⟨g, o + (k + 1) * 3, none⟩ rfl _ k2 ?_
      go_frame
      repeat (go_big_quiet_step ((first
        | with_reducible exact calls_class H1.out
        | with_reducible exact calls_class H2.out)))
      refine quiet_load rfl 38 (.tmp 22) rfl ⟨g, o + k * 3, none⟩ rfl _ k1 ?_
      go_frame
      repeat (go_big_quiet_step ((first
        | with_reducible exact calls_class H1.out
        | with_reducible exact calls_class H2.out)))
      refine wpQuiet_nil ?_
      rintro W ⟨i, rfl⟩
      have hst := HD.out _ i.h
      clear k1 k2
      generalize i.w = w9 at *
      have HS9 := Lib.hid (HS.out.trans hst)
      clear hst
      rw [leq_not]
      cases hlt3 : ltB e1.k e2.k with
      | true =>
        have HB := Lib.hid (show upB L (k + 1 + 1) from fun i hi => by
          by_cases h : i = k
          · subst h; rw [K1.out, K2.out]; exact hlt3
          · exact hb.out i (by omega))
        clear hlt3
        rw [show (!true) = false from rfl]
        go_wp2
        go_roundw
        case rel => exact ⟨k + 1, by go_num, by omega, HB, HS9.out⟩
        case measure => simp [intOf]; omega
      | false =>
        have hu := HF.out k hlt (by rw [K1.out, K2.out]; exact hlt3)
        clear hlt3
        subst hu
        rw [show (!false) = true from rfl]
        go_wp2
        go_ret
        exact ⟨rfl, HS9.out⟩
    · have hu := HT.out (fun i hi => hb.out i (by omega))
      subst hu
      go_wp2
      go_ret
      exact ⟨rfl, HS.out⟩

/-- How many entries, how many parts, the last key. -/
theorem TAt.c0 {w : World} {t p q : Nat} {L : List En} (h : TAt w t L p q) : w.cell? ⟨t, 0, none⟩ = some (.int .i64 (L.length : Int)) := by
  obtain ⟨v, pf, gf, h1, _⟩ := h.ex
  rw [cell_of_row w t 0 _ _ _ h1]; rfl
theorem TAt.c2 {w : World} {t p q : Nat} {L : List En} (h : TAt w t L p q) : w.cell? ⟨t, 2, none⟩ = some (.string ⟨(lastK L).toArray⟩) := by
  obtain ⟨v, pf, gf, h1, _⟩ := h.ex
  rw [cell_of_row w t 2 _ _ _ h1]; rfl
theorem last_any (w : World) (t p q : Nat) (L : List En) (h : TAt w t L p q) : Calls Tryz.prog 22 #[.pointer (some ⟨t, 0, none⟩)] w fun e w' => e = .returned (.string ⟨(lastK L).toArray⟩) ∧ w = w' := by
  have hc := h.c2
  go_enter Tryz.func22, Tryz.ntmps22
  go_wp2
  go_ret
  exact ⟨rfl, rfl⟩
theorem parts_any (w : World) (t p q : Nat) (L : List En) (h : TAt w t L p q) : Calls Tryz.prog 20 #[.pointer (some ⟨t, 0, none⟩)] w fun e w' => e = .returned (.int .i64 (cN L.length p : Nat)) ∧ w = w' := by
  obtain ⟨v, pf, gf, h1, h2, _⟩ := h.ex
  obtain ⟨g, c, rfl, hc⟩ := h2.ex
  have hc : w.cell? ⟨t, 1, none⟩ = some (.slice (some ⟨g, 0, none⟩) (cN L.length p) c) := by rw [cell_of_row w t 1 _ _ _ h1]; rfl
  generalize cN L.length p = n at *
  clear h1 h2
  go_enter Tryz.func20, Tryz.ntmps20
  go_wp2
  go_ret
  exact ⟨rfl, rfl⟩
theorem first_any (w : World) (t p q : Nat) (L : List En) (h : TAt w t L p q) : Calls Tryz.prog 21 #[.pointer (some ⟨t, 0, none⟩)] w fun e w' => e = .returned (.string ⟨(keyAt L 0).toArray⟩) ∧ w = w' := by
  have hn := cN_pos h.p1 h.n1
  have HP := Lib.hid (parts_any w t p q L h)
  obtain ⟨v, pf, gf, h1, h2, _⟩ := h.ex
  obtain ⟨g, c, rfl, hc⟩ := h2.ex
  have h0 := (hc 0 (by omega)).1
  rw [Nat.zero_mul, Nat.zero_mul] at h0
  have hc : w.cell? ⟨t, 1, none⟩ = some (.slice (some ⟨g, 0, none⟩) (cN L.length p) c) := by rw [cell_of_row w t 1 _ _ _ h1]; rfl
  generalize cN L.length p = n at *
  generalize keyAt L 0 = k0 at *
  clear h1 h2
  go_enter Tryz.func21, Tryz.ntmps21
  go_wp2_with fail
  refine HP.out.mono ?_
  rintro e w' ⟨rfl, rfl⟩
  go_wp2
  go_ret
  exact ⟨rfl, rfl⟩
end Go.Proofs.YteogdihacohkfaaGreatDoor.Tb
