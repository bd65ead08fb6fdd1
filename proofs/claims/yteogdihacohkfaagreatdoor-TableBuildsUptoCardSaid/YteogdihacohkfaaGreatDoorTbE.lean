/-
  table: a part as bytes.
-/
import Derived.Test.YteogdihacohkfaaGreatDoorTbD
import Derived.Test.YteogdihacohkfaaGreatDoorGaK
namespace Go.Proofs.YteogdihacohkfaaGreatDoor.Tb
open Go.RowKit
open Pk (stay_seal)
open Me (En EnS EnO Box enC enV norm ltB Sorted getL posN hasB sizeL)
open Pk (spellB bytesB boolB Slc Owns WrAt Cl)
set_option maxRecDepth 100000
set_option linter.unusedVariables false

theorem rows_le (L : List En) (j : Nat) : (rowsB (L.take j)).length ≤ (rowsB L).length := by
  have : rowsB L = rowsB (L.take j) ++ rowsB (L.drop j) := by rw [← rowsB_append, List.take_append_drop]
  rw [this, List.length_append]
  omega
theorem rows_take {L : List En} {j : Nat} {e : En} (he : L[j]? = some e) : rowsB (L.take (j + 1)) = rowsB (L.take j) ++ entB e := by
  obtain ⟨h1, h2⟩ := List.getElem?_eq_some_iff.1 he
  rw [List.take_succ_eq_append_getElem h1, h2, rowsB_snoc]

set_option maxHeartbeats 4000000 in
theorem layPart_any (w : World) (x : Value) (L : List En) (hx : EnS w x L) (hl : L.length ≤ 1000000) (hz : sizeL L ≤ 100000000000000) :
    Calls Tryz.prog 65 #[x] w fun e w' => ∃ v, e = .returned v ∧ Owns w.heap.size w' v (partB L) ∧ Stay (fun _ => False) w w' := by
  have HX := Lib.hid hx
  obtain ⟨a0, c, rfl⟩ := hx.form
  have hrl := (len_rowsB L).2
  have hsp := (len_spellB L.length).2
  have hcm : (L.length : Int) ≤ 1000000 := by omega
  have HRL := Lib.hid (show (spellB L.length ++ rowsB L).length + 100 ≤ 110000000000000 by rw [List.length_append]; omega)
  have HW := Lib.hid (Pk.WrAt.new w)
  have HA := Lib.hid (show Stay (fun _ => False) w (w.alloc (.cells #[.slice none 0 0] 177)) from Stay.alloc _ _)
  clear hx hl hz hrl hsp
  go_enter Tryz.func65, Tryz.ntmps65
  go_wp2_with fail
  refine (Pk.new_any w).mono ?_
  rintro e w1 ⟨rfl, hw1⟩
  have HW1 := Lib.hid (show WrAt (fun k => w.heap.size ≤ k) w1 w.heap.size [] from hw1 ▸ HW.out)
  have HA1 := Lib.hid (show Stay (fun _ => False) w w1 from hw1 ▸ HA.out)
  clear HW HA hw1
  go_wp2_with fail
  refine (Pk.uint_at' w.heap.size w1 w.heap.size [] L.length _ (by omega) HW1.out (by omega) (by simp)).mono ?_
  rintro e w2 ⟨rfl, hw2, hs2⟩
  rw [List.nil_append] at hw2
  have HW2 := Lib.hid hw2
  have HS2 := Lib.hid (show Stay (fun _ => False) w w2 from stay_seal (X := fun k => w.heap.size ≤ k) ((HA1.out.mono (fun _ x => x.elim)).trans hs2) (fun k hk => hk))
  clear hw2 hs2 HW1 HA1
  go_wp2
  go_loopw [13] (fun i wr => ∃ j : Nat, j ≤ L.length ∧ i = .int .i64 (j : Int) ∧ Hid (WrAt (fun k => w.heap.size ≤ k) wr w.heap.size (spellB L.length ++ rowsB (L.take j))) ∧ Stay (fun _ => False) w wr) (fun i _ => L.length - (intOf i).toNat)
  case atStart => exact ⟨0, Nat.zero_le _, rfl, by rw [List.take_zero, show rowsB [] = [] from rfl, List.append_nil]; exact HW2, HS2.out⟩
  case round =>
    obtain ⟨j, hj, rfl, hwa, hst⟩ := hrel
    have HT := Lib.hid hst
    clear hst
    by_cases hlt : j < L.length
    · obtain ⟨e, he⟩ : ∃ e, L[j]? = some e := ⟨_, List.getElem?_eq_getElem (by omega)⟩
      obtain ⟨g, o, rfl, _, hc⟩ := (HX.out.stay0 HT.out).at (by omega)
      obtain ⟨h0, h1, h2⟩ := hc _ e he
      have kl := Lib.hid (Me.run_load_at h0 h1 h2)
      have HK := Lib.hid (show spellB L.length ++ rowsB (L.take (j + 1)) = spellB L.length ++ rowsB (L.take j) ++ bytesB e.k ++ boolB e.g ++ bytesB (norm e).v by rw [rows_take he, entB]; simp only [List.append_assoc])
      have HLE := Lib.hid (show (spellB L.length ++ rowsB (L.take (j + 1))).length ≤ 110000000000000 by
        have h1 := rows_le L (j + 1)
        have h2 := HRL.out
        rw [List.length_append] at h2 ⊢
        omega)
      have HEL := Lib.hid (show (spellB L.length ++ rowsB (L.take j)).length + 9 + e.k.length + 9 + (norm e).v.length ≤ 120000000000000 by
        have h0 := HLE.out
        rw [HK.out] at h0
        have h3 := (len_bytesB e.k).1
        have h4 := (len_bytesB (norm e).v).1
        simp only [List.length_append, len_boolB] at h0 ⊢
        omega)
      have HBX := Lib.hid (Box.new wr ⟨[], [], false⟩)
      have HA := Lib.hid (show Stay (fun _ => False) wr (wr.alloc (.cells (enC ⟨[], [], false⟩).toArray 38)) from Stay.alloc _ _)
      have hpl := hwa.out.lt
      have hzs := HT.out.size
      clear he hc h0 h1 h2
      generalize spellB L.length ++ rowsB (L.take j) = R at *
      obtain ⟨b, hb⟩ : ∃ b, b = wr.heap.size := ⟨_, rfl⟩
      have HBB := Lib.hid hb
      clear hb
      cases hg : e.g with
      | false =>
        go_wp2_with (first
          | (refine Me.wpList_load_run (by rfl) 38 (.tmp 15) rfl ⟨g, o + j * 3, none⟩ rfl _ kl.out ?_)
          | (with_reducible refine Me.alloc_en rfl rfl ?_)
          | (refine Box.store HBX.out rfl (.tmp 5) (.tmp 16) rfl rfl e rfl ?_
             intro w3 hb3 hs3
             have c2 := hb3.c (j := 2) rfl
             have c1 := hb3.c (j := 1) rfl
             have f1 := hb3.fr 1
             rw [hg] at c2
             have HB3 := Lib.hid hb3
             have HS3 := Lib.hid (stay_seal (HA.out.mono (fun _ x => x.elim) |>.trans hs3) (fun k hk => by have hk' : k = wr.heap.size := hk; omega))
             have HZ3 := Lib.hid (show wr.heap.size + 1 ≤ w3.heap.size by have := hs3.size; simp at this; omega)
             clear hb3 hs3))
        have hbx : Box w3 wr.heap.size (norm e) := by
          unfold norm
          rw [if_neg (by rw [hg]; decide)]
          exact HB3.out
        have hs4 : Stay (fun _ => False) wr w3 := HS3.out
        have hz4 : wr.heap.size + 1 ≤ w3.heap.size := HZ3.out
        obtain ⟨w4, rfl⟩ : ∃ w4, w4 = w3 := ⟨_, rfl⟩
        rw [← HBB.out] at hbx hz4 hpl ⊢
        obtain ⟨Y, hYd⟩ : ∃ Y : Nat → Prop, Y = fun k => w.heap.size ≤ k ∧ k ≠ b := ⟨_, rfl⟩
        have HYE := Lib.hid (show ∀ k, Y k → w.heap.size ≤ k ∧ k ≠ b by intro k h; rw [hYd] at h; exact h)
        have HYI := Lib.hid (show ∀ k, w.heap.size ≤ k → k ≠ b → Y k by intro k h1 h2; rw [hYd]; exact ⟨h1, h2⟩)
        have HCL := Lib.hid (show ∀ W, Stay Y w4 W → Cl Y W from fun W hW k hk => HYI.out k (by have := hW.size; omega) (by have := hW.size; omega))
        have HWA := Lib.hid (show WrAt Y w4.drew w.heap.size R from ((hwa.out.tight.stay0 hs4).mono (fun k hk => HYI.out k hk.1 (by have := hk.2; have := HBB.out; omega))).stay0 Stay.drew)
        have HKG := Lib.hid (show (norm e).k = e.k ∧ (norm e).g = e.g from ⟨Me.norm_k e, Me.norm_g e⟩)
        have HC0 := Lib.hid (show ∀ W, Stay Y w4.drew W → W.cell? ⟨b, 0, none⟩ = some (.string ⟨e.k.toArray⟩) from fun W hW => hW.cell (by have := hbx.c (j := 0) rfl; rw [HKG.out.1] at this; exact this) (fun h => (HYE.out _ h).2 rfl))
        have HC1 := Lib.hid (show ∀ W, Stay Y w4.drew W → W.cell? ⟨b, 1, none⟩ = some (.string ⟨(norm e).v.toArray⟩) from fun W hW => hW.cell (hbx.c (j := 1) rfl) (fun h => (HYE.out _ h).2 rfl))
        have HC2 := Lib.hid (show ∀ W, Stay Y w4.drew W → W.cell? ⟨b, 2, none⟩ = some (.bool e.g) from fun W hW => hW.cell (by have := hbx.c (j := 2) rfl; rw [HKG.out.2] at this; exact this) (fun h => (HYE.out _ h).2 rfl))
        have HS4 := Lib.hid hs4
        clear hYd hbx hs4 HKG HB3 HS3 HZ3 c1 c2 f1 HBX HA HBB hg
        go_wp2
        refine wp_region_held (S := Stay Y w4.drew) (by kernel_rfl) ?_
        change wpAnyH _ _ _ _ _ _ _ _ (World.drew _)
        refine wpAnyH_takeL (i := 0) (v := .pointer (some ⟨w.heap.size, 0, none⟩)) #[true, false, false, false, false, false, false, false, false, false] rfl (by kernel_rfl) (by kernel_rfl) (by kernel_rfl) (fun _ _ _ h => h) (by kernel_rfl) (Stay.refl _ _) (Or.inl ⟨by rfl, fun W hW => ?_⟩) ?_
        · go_simp
        conv => arg 8; simp [Act.put]
        refine wpAnyH_takeL (i := 1) (v := .pointer (some ⟨b, 0, none⟩)) #[true, true, false, false, false, false, false, false, false, false] rfl (by kernel_rfl) (by kernel_rfl) (by kernel_rfl) (fun _ _ _ h => h) (by kernel_rfl) (Stay.refl _ _) (Or.inl ⟨by rfl, fun W hW => ?_⟩) ?_
        · go_simp
        conv => arg 8; simp [Act.put]
        refine wpAnyH_takeL (i := 4) (v := .pointer (some ⟨b, 2, none⟩)) #[true, true, false, false, true, false, false, false, false, false] rfl (by kernel_rfl) (by kernel_rfl) (by kernel_rfl) (fun _ _ _ h => h) (by kernel_rfl) (Stay.refl _ _) (Or.inl ⟨by rfl, fun W hW => ?_⟩) ?_
        · go_simp
        conv => arg 8; simp [Act.put]
        refine wpAnyH_takeL (i := 7) (v := .pointer (some ⟨b, 1, none⟩)) #[true, true, false, false, true, false, false, true, false, false] rfl (by kernel_rfl) (by kernel_rfl) (by kernel_rfl) (fun _ _ _ h => h) (by kernel_rfl) (Stay.refl _ _) (Or.inl ⟨by rfl, fun W hW => ?_⟩) ?_
        · go_simp
        conv => arg 8; simp [Act.put]
        refine wpAnyH_takeL (i := 2) (v := .string ⟨e.k.toArray⟩) #[true, true, true, false, true, false, false, true, false, false] rfl (by kernel_rfl) (by kernel_rfl) (by kernel_rfl) (fun _ _ _ h => h) (by kernel_rfl) (Stay.refl _ _) (Or.inl ⟨by rfl, fun W hW => ?_⟩) ?_
        · have hc := HC0.out W hW
          go_simp
        conv => arg 8; simp [Act.put]
        refine wpAnyH_takeL (i := 5) (v := .bool e.g) #[true, true, true, false, true, true, false, true, false, false] rfl (by kernel_rfl) (by kernel_rfl) (by kernel_rfl) (fun _ _ _ h => h) (by kernel_rfl) (Stay.refl _ _) (Or.inl ⟨by rfl, fun W hW => ?_⟩) ?_
        · have hc := HC2.out W hW
          go_simp
        conv => arg 8; simp [Act.put]
        refine wpAnyH_takeL (i := 8) (v := .string ⟨(norm e).v.toArray⟩) #[true, true, true, false, true, true, false, true, true, false] rfl (by kernel_rfl) (by kernel_rfl) (by kernel_rfl) (fun _ _ _ h => h) (by kernel_rfl) (Stay.refl _ _) (Or.inl ⟨by rfl, fun W hW => ?_⟩) ?_
        · have hc := HC1.out W hW
          go_simp
        conv => arg 8; simp [Act.put]
        refine wpAnyH_one #[true, true, true, true, true, true, false, true, true, false] (i := 3) rfl (by kernel_rfl) (by kernel_rfl) (fun K hK => ?_)
        go_simp
        go_wp2_with (go_at_call 63; refine (Pk.wtextY Y _ w.heap.size R e.k HWA.out (HCL.out _ Stay.drew) (by have := HEL.out; omega)).mono ?_; rintro x w5 ⟨rfl, hw5, sw5⟩; have Hw5 := Lib.hid hw5; have Tw5 := Lib.hid (sw5); clear hw5 sw5)
        refine hK _ _ Tw5.out ?_
        clear hK
        conv => arg 8; simp [Act.put]
        refine wpAnyH_one #[true, true, true, true, true, true, true, true, true, false] (i := 6) rfl (by kernel_rfl) (by kernel_rfl) (fun K hK => ?_)
        go_simp
        go_wp2_with (go_at_call 106; refine (Pk.boolY Y _ w.heap.size (R ++ bytesB e.k) e.g Hw5.out (HCL.out _ (Stay.drew.trans Tw5.out)) (by have := HEL.out; have := (len_bytesB e.k).2; rw [List.length_append]; omega)).mono ?_; rintro x w6 ⟨rfl, hw6, sw6⟩; have Hw6 := Lib.hid hw6; have Tw6 := Lib.hid (Tw5.out.trans sw6); clear hw6 sw6)
        refine hK _ _ Tw6.out ?_
        clear hK
        conv => arg 8; simp [Act.put]
        refine wpAnyH_one #[true, true, true, true, true, true, true, true, true, true] (i := 9) rfl (by kernel_rfl) (by kernel_rfl) (fun K hK => ?_)
        go_simp
        go_wp2_with (go_at_call 63; refine (Pk.wtextY Y _ w.heap.size (R ++ bytesB e.k ++ boolB e.g) (norm e).v Hw6.out (HCL.out _ (Stay.drew.trans Tw6.out)) (by have := HEL.out; have := (len_bytesB e.k).2; rw [List.length_append, List.length_append, len_boolB]; omega)).mono ?_; rintro x w7 ⟨rfl, hw7, sw7⟩; have Hw7 := Lib.hid hw7; have Tw7 := Lib.hid (Tw6.out.trans sw7); clear hw7 sw7)
        refine hK _ _ Tw7.out ?_
        clear hK
        conv => arg 8; simp [Act.put]
        refine wpAnyH_done (by kernel_rfl) ?_ _
        have HW7 := Lib.hid (show WrAt (fun k => w.heap.size ≤ k) w7 w.heap.size (spellB L.length ++ rowsB (L.take (j + 1))) by rw [HK.out]; exact Hw7.out.mono (fun k hk => (HYE.out k hk).1))
        have HT7 := Lib.hid (show Stay (fun _ => False) w w7 from stay_seal (X := fun k => w.heap.size ≤ k) (((HT.out.trans HS4.out).mono (fun _ x => x.elim)).trans ((Stay.drew.trans Tw7.out).mono (fun k hk => (HYE.out k hk).1))) (fun k hk => hk))
        clear Hw5 Tw5 Hw6 Tw6 Hw7 Tw7 HC0 HC1 HC2 HWA
        go_wp2
        go_roundw
        case rel => exact ⟨j + 1, hlt, by go_num, HW7, HT7.out⟩
        case measure => simp [intOf]; omega
      | true =>
        go_wp2_with (first
          | (refine Me.wpList_load_run (by rfl) 38 (.tmp 15) rfl ⟨g, o + j * 3, none⟩ rfl _ kl.out ?_)
          | (with_reducible refine Me.alloc_en rfl rfl ?_)
          | (refine Box.store HBX.out rfl (.tmp 5) (.tmp 16) rfl rfl e rfl ?_
             intro w3 hb3 hs3
             have c2 := hb3.c (j := 2) rfl
             have c1 := hb3.c (j := 1) rfl
             have f1 := hb3.fr 1
             rw [hg] at c2
             have HB3 := Lib.hid hb3
             have HS3 := Lib.hid (stay_seal (HA.out.mono (fun _ x => x.elim) |>.trans hs3) (fun k hk => by have hk' : k = wr.heap.size := hk; omega))
             have HZ3 := Lib.hid (show wr.heap.size + 1 ≤ w3.heap.size by have := hs3.size; simp at this; omega)
             clear hb3 hs3))
        have hbx : Box (w3.setCell ⟨wr.heap.size, 1, none⟩ (.string ⟨#[]⟩)) wr.heap.size (norm e) := by
          have h1 := heap_setCell_same w3 wr.heap.size 1 _ _ (.string ⟨#[]⟩) HB3.out
          unfold Box norm
          rw [if_pos hg]
          unfold enC at h1 ⊢
          rw [hg] at h1
          exact h1
        have hs4 : Stay (fun _ => False) wr (w3.setCell ⟨wr.heap.size, 1, none⟩ (.string ⟨#[]⟩)) :=
          stay_seal (X := fun k => k = wr.heap.size) ((HS3.out.mono (fun _ x => x.elim)).trans (Stay.setCell _ _ _ rfl)) (fun k hk => by have hk' : k = wr.heap.size := hk; omega)
        have hz4 : wr.heap.size + 1 ≤ (w3.setCell ⟨wr.heap.size, 1, none⟩ (.string ⟨#[]⟩)).heap.size := by simp; exact HZ3.out
        obtain ⟨w4, hw4⟩ : ∃ w4, w3.setCell ⟨wr.heap.size, 1, none⟩ (.string ⟨#[]⟩) = w4 := ⟨_, rfl⟩
        rw [hw4] at hbx hs4 hz4 ⊢
        clear hw4
        rw [← HBB.out] at hbx hz4 hpl ⊢
        obtain ⟨Y, hYd⟩ : ∃ Y : Nat → Prop, Y = fun k => w.heap.size ≤ k ∧ k ≠ b := ⟨_, rfl⟩
        have HYE := Lib.hid (show ∀ k, Y k → w.heap.size ≤ k ∧ k ≠ b by intro k h; rw [hYd] at h; exact h)
        have HYI := Lib.hid (show ∀ k, w.heap.size ≤ k → k ≠ b → Y k by intro k h1 h2; rw [hYd]; exact ⟨h1, h2⟩)
        have HCL := Lib.hid (show ∀ W, Stay Y w4 W → Cl Y W from fun W hW k hk => HYI.out k (by have := hW.size; omega) (by have := hW.size; omega))
        have HWA := Lib.hid (show WrAt Y w4.drew w.heap.size R from ((hwa.out.tight.stay0 hs4).mono (fun k hk => HYI.out k hk.1 (by have := hk.2; have := HBB.out; omega))).stay0 Stay.drew)
        have HKG := Lib.hid (show (norm e).k = e.k ∧ (norm e).g = e.g from ⟨Me.norm_k e, Me.norm_g e⟩)
        have HC0 := Lib.hid (show ∀ W, Stay Y w4.drew W → W.cell? ⟨b, 0, none⟩ = some (.string ⟨e.k.toArray⟩) from fun W hW => hW.cell (by have := hbx.c (j := 0) rfl; rw [HKG.out.1] at this; exact this) (fun h => (HYE.out _ h).2 rfl))
        have HC1 := Lib.hid (show ∀ W, Stay Y w4.drew W → W.cell? ⟨b, 1, none⟩ = some (.string ⟨(norm e).v.toArray⟩) from fun W hW => hW.cell (hbx.c (j := 1) rfl) (fun h => (HYE.out _ h).2 rfl))
        have HC2 := Lib.hid (show ∀ W, Stay Y w4.drew W → W.cell? ⟨b, 2, none⟩ = some (.bool e.g) from fun W hW => hW.cell (by have := hbx.c (j := 2) rfl; rw [HKG.out.2] at this; exact this) (fun h => (HYE.out _ h).2 rfl))
        have HS4 := Lib.hid hs4
        clear hYd hbx hs4 HKG HB3 HS3 HZ3 c1 c2 f1 HBX HA HBB hg
        go_wp2
        refine wp_region_held (S := Stay Y w4.drew) (by kernel_rfl) ?_
        change wpAnyH _ _ _ _ _ _ _ _ (World.drew _)
        refine wpAnyH_takeL (i := 0) (v := .pointer (some ⟨w.heap.size, 0, none⟩)) #[true, false, false, false, false, false, false, false, false, false] rfl (by kernel_rfl) (by kernel_rfl) (by kernel_rfl) (fun _ _ _ h => h) (by kernel_rfl) (Stay.refl _ _) (Or.inl ⟨by rfl, fun W hW => ?_⟩) ?_
        · go_simp
        conv => arg 8; simp [Act.put]
        refine wpAnyH_takeL (i := 1) (v := .pointer (some ⟨b, 0, none⟩)) #[true, true, false, false, false, false, false, false, false, false] rfl (by kernel_rfl) (by kernel_rfl) (by kernel_rfl) (fun _ _ _ h => h) (by kernel_rfl) (Stay.refl _ _) (Or.inl ⟨by rfl, fun W hW => ?_⟩) ?_
        · go_simp
        conv => arg 8; simp [Act.put]
        refine wpAnyH_takeL (i := 4) (v := .pointer (some ⟨b, 2, none⟩)) #[true, true, false, false, true, false, false, false, false, false] rfl (by kernel_rfl) (by kernel_rfl) (by kernel_rfl) (fun _ _ _ h => h) (by kernel_rfl) (Stay.refl _ _) (Or.inl ⟨by rfl, fun W hW => ?_⟩) ?_
        · go_simp
        conv => arg 8; simp [Act.put]
        refine wpAnyH_takeL (i := 7) (v := .pointer (some ⟨b, 1, none⟩)) #[true, true, false, false, true, false, false, true, false, false] rfl (by kernel_rfl) (by kernel_rfl) (by kernel_rfl) (fun _ _ _ h => h) (by kernel_rfl) (Stay.refl _ _) (Or.inl ⟨by rfl, fun W hW => ?_⟩) ?_
        · go_simp
        conv => arg 8; simp [Act.put]
        refine wpAnyH_takeL (i := 2) (v := .string ⟨e.k.toArray⟩) #[true, true, true, false, true, false, false, true, false, false] rfl (by kernel_rfl) (by kernel_rfl) (by kernel_rfl) (fun _ _ _ h => h) (by kernel_rfl) (Stay.refl _ _) (Or.inl ⟨by rfl, fun W hW => ?_⟩) ?_
        · have hc := HC0.out W hW
          go_simp
        conv => arg 8; simp [Act.put]
        refine wpAnyH_takeL (i := 5) (v := .bool e.g) #[true, true, true, false, true, true, false, true, false, false] rfl (by kernel_rfl) (by kernel_rfl) (by kernel_rfl) (fun _ _ _ h => h) (by kernel_rfl) (Stay.refl _ _) (Or.inl ⟨by rfl, fun W hW => ?_⟩) ?_
        · have hc := HC2.out W hW
          go_simp
        conv => arg 8; simp [Act.put]
        refine wpAnyH_takeL (i := 8) (v := .string ⟨(norm e).v.toArray⟩) #[true, true, true, false, true, true, false, true, true, false] rfl (by kernel_rfl) (by kernel_rfl) (by kernel_rfl) (fun _ _ _ h => h) (by kernel_rfl) (Stay.refl _ _) (Or.inl ⟨by rfl, fun W hW => ?_⟩) ?_
        · have hc := HC1.out W hW
          go_simp
        conv => arg 8; simp [Act.put]
        refine wpAnyH_one #[true, true, true, true, true, true, false, true, true, false] (i := 3) rfl (by kernel_rfl) (by kernel_rfl) (fun K hK => ?_)
        go_simp
        go_wp2_with (go_at_call 63; refine (Pk.wtextY Y _ w.heap.size R e.k HWA.out (HCL.out _ Stay.drew) (by have := HEL.out; omega)).mono ?_; rintro x w5 ⟨rfl, hw5, sw5⟩; have Hw5 := Lib.hid hw5; have Tw5 := Lib.hid (sw5); clear hw5 sw5)
        refine hK _ _ Tw5.out ?_
        clear hK
        conv => arg 8; simp [Act.put]
        refine wpAnyH_one #[true, true, true, true, true, true, true, true, true, false] (i := 6) rfl (by kernel_rfl) (by kernel_rfl) (fun K hK => ?_)
        go_simp
        go_wp2_with (go_at_call 106; refine (Pk.boolY Y _ w.heap.size (R ++ bytesB e.k) e.g Hw5.out (HCL.out _ (Stay.drew.trans Tw5.out)) (by have := HEL.out; have := (len_bytesB e.k).2; rw [List.length_append]; omega)).mono ?_; rintro x w6 ⟨rfl, hw6, sw6⟩; have Hw6 := Lib.hid hw6; have Tw6 := Lib.hid (Tw5.out.trans sw6); clear hw6 sw6)
        refine hK _ _ Tw6.out ?_
        clear hK
        conv => arg 8; simp [Act.put]
        refine wpAnyH_one #[true, true, true, true, true, true, true, true, true, true] (i := 9) rfl (by kernel_rfl) (by kernel_rfl) (fun K hK => ?_)
        go_simp
        go_wp2_with (go_at_call 63; refine (Pk.wtextY Y _ w.heap.size (R ++ bytesB e.k ++ boolB e.g) (norm e).v Hw6.out (HCL.out _ (Stay.drew.trans Tw6.out)) (by have := HEL.out; have := (len_bytesB e.k).2; rw [List.length_append, List.length_append, len_boolB]; omega)).mono ?_; rintro x w7 ⟨rfl, hw7, sw7⟩; have Hw7 := Lib.hid hw7; have Tw7 := Lib.hid (Tw6.out.trans sw7); clear hw7 sw7)
        refine hK _ _ Tw7.out ?_
        clear hK
        conv => arg 8; simp [Act.put]
        refine wpAnyH_done (by kernel_rfl) ?_ _
        have HW7 := Lib.hid (show WrAt (fun k => w.heap.size ≤ k) w7 w.heap.size (spellB L.length ++ rowsB (L.take (j + 1))) by rw [HK.out]; exact Hw7.out.mono (fun k hk => (HYE.out k hk).1))
        have HT7 := Lib.hid (show Stay (fun _ => False) w w7 from stay_seal (X := fun k => w.heap.size ≤ k) (((HT.out.trans HS4.out).mono (fun _ x => x.elim)).trans ((Stay.drew.trans Tw7.out).mono (fun k hk => (HYE.out k hk).1))) (fun k hk => hk))
        clear Hw5 Tw5 Hw6 Tw6 Hw7 Tw7 HC0 HC1 HC2 HWA
        go_wp2
        go_roundw
        case rel => exact ⟨j + 1, hlt, by go_num, HW7, HT7.out⟩
        case measure => simp [intOf]; omega
    · obtain rfl : j = L.length := by omega
      rw [List.take_length] at hwa
      go_wp2_with fail
      refine (Pk.done_any _ wr w.heap.size _ hwa.out (by have := HRL.out; omega)).mono ?_
      rintro e w3 ⟨v3, rfl, ho3, hs3⟩
      have HT3 := Lib.hid (HT.out.trans hs3)
      have HSL := Lib.hid ho3.slc
      obtain ⟨a3, c3, rfl⟩ := ho3.form
      obtain ⟨T, hT⟩ : ∃ T, T = spellB L.length ++ rowsB L := ⟨_, rfl⟩
      have HTT := Lib.hid (show partB L = Hn.sealB T by rw [hT]; rfl)
      rw [← hT] at HSL HRL ⊢
      clear ho3 hs3 hT
      go_wp2_with fail
      refine (Hn.seal_any _ T w3 HSL.out (by have := HRL.out; omega)).mono ?_
      rintro e w4 ⟨v4, rfl, ho4, hs4⟩
      have HO4 := Lib.hid (ho4.base (base' := w.heap.size) (fun k hk => Nat.le_trans HT3.out.size (ho4.lt k hk).1))
      have HT4 := Lib.hid (HT3.out.trans hs4)
      clear ho4 hs4
      go_wp2
      go_ret
      exact ⟨v4, rfl, by rw [HTT.out]; exact HO4.out, HT4.out⟩
end Go.Proofs.YteogdihacohkfaaGreatDoor.Tb
