/-
  table, the document's: whether entries are in order; a part as bytes.
-/
import Derived.Test.YtahfgoafiepioaaGreatDoorGaT
import Derived.Test.YtahfgoafiepioaaGreatDoorGaR
import Derived.Test.YtahfgoafiepioaaGreatDoorHeldS
import Derived.Test.YtahfgoafiepioaaGreatDoorDeNar
namespace Go.Proofs.YtahfgoafiepioaaGreatDoor.Tb
open Go.RowKit
open Pk (stay_seal)
open Me (En EnS EnO Box enC enV norm ltB Sorted getL posN hasB sizeL)
open Pk (spellB bytesB boolB Slc Owns)
set_option maxRecDepth 100000
set_option linter.unusedVariables false

set_option maxHeartbeats 4000000 in
theorem rising_any (w : World) (x : Value) (L : List En) (hx : EnS w x L) (hl : L.length ≤ 1000000) :
    Calls Tryz.prog 81 #[x] w fun e w' => e = .returned (.bool (decide (Sorted L))) ∧ Stay (fun _ => False) w w' := by
  have HX := Lib.hid hx
  obtain ⟨a0, c, rfl⟩ := hx.form
  obtain ⟨R, hR⟩ : ∃ R, R = decide (Sorted L) := ⟨_, rfl⟩
  have HT := Lib.hid (show upB L L.length → R = true by intro h; rw [hR]; exact decide_eq_true (upB_all.1 h))
  have HF := Lib.hid (show ∀ i, i + 1 < L.length → ltB (keyAt L i) (keyAt L (i + 1)) = false → R = false by
    intro i hi h
    rw [hR]
    refine decide_eq_false (fun hs => ?_)
    rw [upB_all.2 hs i hi] at h
    cases h)
  rw [← hR]
  have hlc : (L.length : Int) ≤ 1000000 := by omega
  clear hx hR hl
  go_enter Tryz.func81, Tryz.ntmps81
  go_wp2
  go_loopw [3] (fun i wr => ∃ k : Nat, i = .int .i64 ((k : Int) + 1) ∧ (k ≤ L.length) ∧ Hid (upB L (k + 1)) ∧ Stay (fun _ => False) w wr) (fun i _ => L.length + 1 - (intOf i).toNat)
  case atStart => exact ⟨0, rfl, Nat.zero_le _, Lib.hid (fun i hi => by omega), Stay.refl _ _⟩
  case round =>
    obtain ⟨k, rfl, hk, hb, hst⟩ := hrel
    have HS := Lib.hid hst
    clear hst
    by_cases hlt : k + 1 < L.length
    · obtain ⟨e1, he1, hk1⟩ := at_of (L := L) (i := k) (by omega)
      obtain ⟨e2, he2, hk2⟩ := at_of (L := L) (i := k + 1) hlt
      obtain ⟨g, o, rfl, _, hc⟩ := (HX.out.stay0 HS.out).at (by omega)
      have c0 := (hc _ e1 he1).1
      have d0 := (hc _ e2 he2).1
      have K1 := Lib.hid hk1
      have K2 := Lib.hid hk2
      clear hc he1 he2 hk1 hk2
      go_wp2
      go_quiet (fail)
      have HS9 := Lib.hid (HS.out.trans (Pk.stay_drewN (X := fun _ => False) wr nq))
      rw [leq_not]
      cases hlt3 : ltB e1.k e2.k with
      | true =>
        have HB := Lib.hid (show upB L (k + 1 + 1) from fun i hi => by
          by_cases h : i = k
          · subst h; rw [K1.out, K2.out]; exact hlt3
          · exact hb.out i (by omega))
        clear hlt3
        rw [show (!true) = false from rfl]
        go_wp2
        go_roundw
        case rel => exact ⟨k + 1, by go_num, by omega, HB, HS9.out⟩
        case measure => simp [intOf]; omega
      | false =>
        have hu := HF.out k hlt (by rw [K1.out, K2.out]; exact hlt3)
        clear hlt3
        subst hu
        rw [show (!false) = true from rfl]
        go_wp2
        go_ret
        exact ⟨rfl, HS9.out⟩
    · have hu := HT.out (fun i hi => hb.out i (by omega))
      subst hu
      go_wp2
      go_ret
      exact ⟨rfl, HS.out⟩

end Go.Proofs.YtahfgoafiepioaaGreatDoor.Tb
