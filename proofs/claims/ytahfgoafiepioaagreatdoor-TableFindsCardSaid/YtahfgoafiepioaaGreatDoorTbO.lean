/-
  table's laws: what must come whatever the input is; what they share.
-/
import Derived.Test.YtahfgoafiepioaaGreatDoorTbN
import Derived.Test.YtahfgoafiepioaaGreatDoorGaM
namespace Go.Proofs.YtahfgoafiepioaaGreatDoor.Tb
open Go.RowKit
open Pk (stay_seal)
open Me (En EnS EnO Box enC enV enRows norm ltB Sorted getL posN hasB sizeL entOf putsL putL)
open Pk (Slc Owns)
set_option maxRecDepth 100000
set_option linter.unusedVariables false

def L3 : List En := [⟨[97], [], false⟩, ⟨[98], [120], false⟩, ⟨[99], [], false⟩]
theorem len_L3 : L3.length = 3 := rfl
theorem sorted_L3 : Sorted L3 := by decide
theorem good_L3 : Good L3 2 8 := ⟨by decide, by decide, by decide, by decide, sorted_L3, by decide, by decide, by decide⟩
theorem tab_L3 : (tabB L3 2 8).length ≤ 1048576 := by
  have := length_tabB (L := L3) (p := 2) (q := 8) (by decide) (by decide)
  have h1 : sizeL L3 = 4 := by decide
  have h2 := len_L3
  omega
theorem ens_L3 (w : World) : EnS (w.alloc (.cells (enRows L3).toArray 27)) (.slice (some ⟨w.heap.size, 0, none⟩) 3 3) L3 := by
  refine ⟨_, 3, rfl, by decide, by decide, (fun e => by cases e), fun _ => ⟨w.heap.size, 0, rfl, fun i e he j u hu => ?_⟩⟩
  have hj : j < 3 := (List.getElem?_eq_some_iff.1 hu).1
  have h1 := Me.enRows_get hj L3 i he
  rw [cell_of_row _ w.heap.size _ _ _ _ (heap_alloc_new w _), List.getElem?_toArray, Nat.zero_add, h1, hu]
set_option maxHeartbeats 4000000 in
theorem sure_any (w : World) : Calls Tryz.prog 6 #[] w fun e w' => e = .returned (.bool true) ∧ Stay (fun _ => False) w w' := by
  have hx := ens_L3 w
  have hs1 : Stay (fun _ => False) w (w.alloc (.cells (enRows L3).toArray 27)) := Stay.alloc _ _
  obtain ⟨w1, hw1⟩ : ∃ w1, w.alloc (.cells (enRows L3).toArray 27) = w1 := ⟨_, rfl⟩
  rw [hw1] at hx hs1
  have HX := Lib.hid hx
  have HS1 := Lib.hid hs1
  have W1 := Lib.hid (show w.alloc (.cells #[.string ⟨#[97]⟩, .string ⟨#[]⟩, .bool false, .string ⟨#[98]⟩, .string ⟨#[120]⟩, .bool false, .string ⟨#[99]⟩, .string ⟨#[]⟩, .bool false] 27) = w1 from hw1)
  have HBL := Lib.hid (build_ok w1 _ L3 2 8 hx sorted_L3 (by decide) (by decide) (by decide) (by decide) (by decide) (by decide) (by decide) tab_L3)
  clear hx hs1 hw1
  go_enter Tryz.func6, Tryz.ntmps6
  go_wp2_with fail
  rw [W1.out]
  refine HBL.out.mono ?_
  rintro e w2 ⟨⟨v2, rfl, ho2⟩, hs2⟩
  obtain ⟨T, hT⟩ : ∃ T, T = tabB L3 2 8 := ⟨_, rfl⟩
  rw [← hT] at ho2
  have HSL := Lib.hid (hT ▸ ho2.slc)
  obtain ⟨a2, c2, rfl⟩ := ho2.form
  have HS2 := Lib.hid (HS1.out.trans hs2)
  have HOP := Lib.hid (open_any w2 _ L3 2 8 HSL.out good_L3)
  clear ho2 hs2 hT HSL HBL
  go_wp2_with fail
  refine HOP.out.mono ?_
  rintro e w3 ⟨⟨t, rfl, _, ht⟩, hs3⟩
  have HT3 := Lib.hid ht
  have HS3 := Lib.hid (HS2.out.trans hs3)
  clear ht hs3 HOP
  go_wp2_with fail
  refine (get_any w3 t 2 8 L3 [98] HT3.out (by decide)).mono ?_
  rintro e w4 ⟨rfl, hs4⟩
  rw [show getL L3 [98] = some ⟨[98], [120], false⟩ by decide]
  simp only [entOf, Option.isSome_some]
  have HT4 := Lib.hid (HT3.out.stay0 hs4)
  have HS4 := Lib.hid (HS3.out.trans hs4)
  have HBX := Lib.hid (Box.new w4 ⟨[], [], false⟩)
  have HA := Lib.hid (show Stay (fun _ => False) w4 (w4.alloc (.cells (enC ⟨[], [], false⟩).toArray 27)) from Stay.alloc _ _)
  clear hs4
  go_wp2_with (first
    | (with_reducible refine Me.alloc_en rfl rfl ?_)
    | (refine Box.store HBX.out rfl (.tmp 5) (.tmp 34) rfl rfl ⟨[98], [120], false⟩ rfl ?_
       intro w5 hb5 hs5
       have c1 := hb5.c (j := 1) rfl
       have HT5 := Lib.hid (HT4.out.stay0 (stay_seal ((HA.out.mono (fun _ x => x.elim)).trans hs5) (fun k hk => by have hk' : k = w4.heap.size := hk; omega)))
       have HS5 := Lib.hid (HS4.out.trans (stay_seal ((HA.out.mono (fun _ x => x.elim)).trans hs5) (fun k hk => by have hk' : k = w4.heap.size := hk; omega)))
       clear hb5 hs5))
  refine (parts_any w5 t 2 8 L3 HT5.out).mono ?_
  rintro e w6 ⟨rfl, rfl⟩
  rw [show ((cN L3.length 2 : Nat) : Int) = 2 by decide]
  go_wp2_with fail
  refine (first_any w5 t 2 8 L3 HT5.out).mono ?_
  rintro e w6 ⟨rfl, rfl⟩
  rw [show keyAt L3 0 = [97] by decide]
  go_wp2_with fail
  refine (last_any w5 t 2 8 L3 HT5.out).mono ?_
  rintro e w6 ⟨rfl, rfl⟩
  rw [show lastK L3 = [99] by decide]
  go_wp2
  go_ret
  exact ⟨rfl, HS5.out⟩

/-- What was put has no value where it is gone. -/
theorem norm_norm (e : En) : norm (norm e) = norm e := by
  unfold norm
  by_cases h : e.g = true
  · rw [if_pos h]; rfl
  · rw [if_neg h, if_neg h]
theorem norm_put {L : List En} (h : ∀ e ∈ L, norm e = e) (e : En) : ∀ x ∈ putL L e, norm x = x := by
  intro x hx
  unfold putL at hx
  rcases List.mem_append.1 hx with hx | hx
  · exact h x (List.mem_of_mem_take hx)
  · rcases List.mem_cons.1 hx with rfl | hx
    · exact norm_norm e
    · exact h x (List.mem_of_mem_drop hx)
theorem norm_puts (L : List En) : ∀ j, ∀ e ∈ putsL L j, norm e = e
  | 0 => fun e he => by cases he
  | j + 1 => by
    have := norm_puts L j
    unfold putsL
    split
    · exact norm_put this _
    · exact this
end Go.Proofs.YtahfgoafiepioaaGreatDoor.Tb
