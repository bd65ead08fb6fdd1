/-
  delta: with how many bytes both begin; a match.
-/
import Derived.Test.YtnlknnhibnfhcaaDoorDeA
namespace Go.Proofs.YtnlknnhibnfhcaaDoor.De
open Go.RowKit Pk
set_option maxRecDepth 100000

theorem byte_eq (c d : UInt8) : (((c.toNat : Nat) : Int) == ((d.toNat : Nat) : Int)) = (c == d) := by
  by_cases h : c = d
  · subst h; simp
  · rw [beq_eq_false_iff_ne.2 h, beq_eq_false_iff_ne.2]
    intro e
    exact h (UInt8.toNat_inj.1 (by omega))
theorem blk_cell {w : World} {g : Nat} {ty : TypeId} {b : List UInt8} (h : BAt w g ty b) {i : Nat} (hi : i < b.length) : w.cell? ⟨g, i, none⟩ = some (.int .u8 (b[i].toNat : Int)) := by
  rw [h.c]
  simp [cellsB, hi, byteV]

set_option maxHeartbeats 1000000 in
theorem alike_any (w : World) (g1 g2 : Nat) (t1 t2 : TypeId) (a b : List UInt8) (i j : Nat) (ha : a.length = 64) (hb : b.length = 64) (hi : i < 64) (hj : j < 64) (h1 : BAt w g1 t1 a) (h2 : BAt w g2 t2 b) (x y : Value)
    (hx : x = .slice (some ⟨g1, i, none⟩) (64 - i) (64 - i)) (hy : y = .slice (some ⟨g2, j, none⟩) (64 - j) (64 - j)) :
    Calls Tryd.prog 59 #[x, y] w fun e w' => e = .returned (.int .i64 (alikeN (a.drop i) (b.drop j) : Nat)) ∧ Stay (fun _ => False) w w' := by
  subst hx hy
  have H1 := Lib.hid h1
  have H2 := Lib.hid h2
  obtain ⟨R, hR⟩ : ∃ R : Nat, R = alikeN (a.drop i) (b.drop j) := ⟨_, rfl⟩
  rw [← hR]
  have HR := Lib.hid hR
  have HA := Lib.hid ha
  have HB := Lib.hid hb
  clear h1 h2 hR ha hb
  go_enter Tryd.func59, Tryd.ntmps59
  go_wp2
  go_loopw [5] (fun n wr => ∃ k : Nat, i + k ≤ 64 ∧ j + k ≤ 64 ∧ n = .int .i64 (k : Int) ∧ (∀ z, z < k → (a.drop i)[z]? = (b.drop j)[z]?) ∧ Stay (fun _ => False) w wr) (fun n _ => 64 - (intOf n).toNat)
  case atStart => exact ⟨0, by omega, by omega, rfl, fun z hz => by omega, Stay.refl _ _⟩
  case round =>
    obtain ⟨k, hk1, hk2, rfl, hsame, hst⟩ := hrel
    have HS := Lib.hid hsame
    have HT := Lib.hid hst
    clear hsame hst
    obtain ⟨D, hDd⟩ : ∃ D : World → Prop, D = Stay (fun _ => False) wr := ⟨_, rfl⟩
    have HD := Lib.hid (show ∀ W, D W → Stay (fun _ => False) wr W by intro W h; rw [hDd] at h; exact h)
    have HDm := Lib.hid (show ∀ W, Stay (fun _ => False) wr W → D W by intro W h; rw [hDd]; exact h)
    clear hDd
    have HN0 := Lib.hid (HDm.out wr.drew Stay.drew)
    haveI : Nonempty (InC D) := ⟨⟨_, HN0.out⟩⟩
    by_cases hl1 : i + k < 64
    · by_cases hl2 : j + k < 64
      · obtain ⟨c, hc⟩ : ∃ c, (a.drop i)[k]? = some c := ⟨_, List.getElem?_eq_getElem (by rw [List.length_drop, HA.out]; omega)⟩
        obtain ⟨d, hd⟩ : ∃ d, (b.drop j)[k]? = some d := ⟨_, List.getElem?_eq_getElem (by rw [List.length_drop, HB.out]; omega)⟩
        have k1 := fun z : InC D => show z.w.cell? ⟨g1, i + k, none⟩ = some (.int .u8 (c.toNat : Int)) by
          have := blk_cell (H1.out.stay0 (HT.out.trans (HD.out _ z.h))) (i := i + k) (by rw [HA.out]; omega)
          rw [this]
          rw [List.getElem?_drop, List.getElem?_eq_getElem (by rw [HA.out]; omega)] at hc
          cases hc
          rfl
        have k2 := fun z : InC D => show z.w.cell? ⟨g2, j + k, none⟩ = some (.int .u8 (d.toNat : Int)) by
          have := blk_cell (H2.out.stay0 (HT.out.trans (HD.out _ z.h))) (i := j + k) (by rw [HB.out]; omega)
          rw [this]
          rw [List.getElem?_drop, List.getElem?_eq_getElem (by rw [HB.out]; omega)] at hd
          cases hd
          rfl
        have e1 : decide (k < 64 - i) = true := decide_eq_true (by omega)
        have e2 : decide (k < 64 - j) = true := decide_eq_true (by omega)
        by_cases hcd : c = d
        · subst hcd
          have e3 : (((c.toNat : Nat) : Int) == ((c.toNat : Nat) : Int)) = true := by simp
          have HN := Lib.hid (show ∀ z, z < k + 1 → (a.drop i)[z]? = (b.drop j)[z]? from fun z hz => by
            by_cases h : z = k
            · subst h; rw [hc, hd]
            · exact HS.out z (by omega))
          clear hc hd
          go_wp2
          refine wp_region_class D HN0.out (by kernel_rfl) (by kernel_rfl) ?_
          try go_frame
          repeat (go_big_quiet_step (fail))
          refine wpQuiet_nil ?_
          rintro W ⟨z, rfl⟩
          have hs := HD.out _ z.h
          generalize z.w = w9 at *
          go_wp2
          refine ⟨⟨k + 1, by omega, by omega, by go_num, HN.out, HT.out.trans hs⟩, by simp [intOf]; omega⟩
        · have e3 : (((c.toNat : Nat) : Int) == ((d.toNat : Nat) : Int)) = false := by rw [byte_eq]; simp [hcd]
          have HN := Lib.hid (show R = k from by
            rw [HR.out]
            exact alikeN_stop HS.out (by rw [List.length_drop, HA.out]; omega) (by rw [List.length_drop, HB.out]; omega) (.inr (.inr (by rw [hc, hd]; simpa using hcd))))
          clear hc hd
          go_wp2
          refine wp_region_class D HN0.out (by kernel_rfl) (by kernel_rfl) ?_
          try go_frame
          repeat (go_big_quiet_step (fail))
          refine wpQuiet_nil ?_
          rintro W ⟨z, rfl⟩
          have hs := HD.out _ z.h
          generalize z.w = w9 at *
          go_wp2
          go_ret
          rw [HN.out]
          exact ⟨rfl, HT.out.trans hs⟩
      · have e1 : decide (k < 64 - i) = true := decide_eq_true (by omega)
        have e2 : decide (k < 64 - j) = false := decide_eq_false (by omega)
        have HN := Lib.hid (show R = k from by
          rw [HR.out]
          exact alikeN_stop HS.out (by rw [List.length_drop, HA.out]; omega) (by rw [List.length_drop, HB.out]; omega) (.inr (.inl (by rw [List.length_drop, HB.out]; omega))))
        go_wp2
        refine wp_region_class D HN0.out (by kernel_rfl) (by kernel_rfl) ?_
        try go_frame
        repeat (go_big_quiet_step (fail))
        refine wpQuiet_nil ?_
        rintro W ⟨z, rfl⟩
        have hs := HD.out _ z.h
        generalize z.w = w9 at *
        go_wp2
        go_ret
        rw [HN.out]
        exact ⟨rfl, HT.out.trans hs⟩
    · have e1 : decide (k < 64 - i) = false := decide_eq_false (by omega)
      have HN := Lib.hid (show R = k from by
        rw [HR.out]
        exact alikeN_stop HS.out (by rw [List.length_drop, HA.out]; omega) (by rw [List.length_drop, HB.out]; omega) (.inl (by rw [List.length_drop, HA.out]; omega)))
      go_wp2
      refine wp_region_class D HN0.out (by kernel_rfl) (by kernel_rfl) ?_
      try go_frame
      repeat (go_big_quiet_step (fail))
      refine wpQuiet_nil ?_
      rintro W ⟨z, rfl⟩
      have hs := HD.out _ z.h
      generalize z.w = w9 at *
      go_wp2
      go_ret
      rw [HN.out]
      exact ⟨rfl, HT.out.trans hs⟩
end Go.Proofs.YtnlknnhibnfhcaaDoor.De
