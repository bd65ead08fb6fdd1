/-
  table, the document's: whether entries are in order; a part as bytes.
-/
import Derived.Test.YteogdihacohkfaaGreatDoorTbE
import Derived.Test.YteogdihacohkfaaGreatDoorPkRefZ3
import Derived.Test.YteogdihacohkfaaGreatDoorHeldS
import Derived.Test.YteogdihacohkfaaGreatDoorDeNar
namespace Go.Proofs.YteogdihacohkfaaGreatDoor.Tb
open Go.RowKit
open Pk (stay_seal)
open Me (En EnS EnO Box enC enV norm ltB Sorted getL posN hasB sizeL)
open Pk (spellB bytesB boolB Slc Owns)
set_option maxRecDepth 100000
set_option linter.unusedVariables false

set_option maxHeartbeats 4000000 in
theorem rising_any (w : World) (x : Value) (L : List En) (hx : EnS w x L) (hl : L.length ≤ 1000000) :
    Calls Tryz.prog 27 #[x] w fun e w' => e = .returned (.bool (decide (Sorted L))) ∧ Stay (fun _ => False) w w' := by
  have HX := Lib.hid hx
  obtain ⟨a0, c, rfl⟩ := hx.form
  obtain ⟨R, hR⟩ : ∃ R, R = decide (Sorted L) := ⟨_, rfl⟩
  have HT := Lib.hid (show upB L L.length → R = true by intro h; rw [hR]; exact decide_eq_true (upB_all.1 h))
  have HF := Lib.hid (show ∀ i, i + 1 < L.length → ltB (keyAt L i) (keyAt L (i + 1)) = false → R = false by
    intro i hi h
    rw [hR]
    refine decide_eq_false (fun hs => ?_)
    rw [upB_all.2 hs i hi] at h
    cases h)
  rw [← hR]
  have hlc : (L.length : Int) ≤ 1000000 := by omega
  clear hx hR hl
  go_enter Tryz.func27, Tryz.ntmps27
  go_wp2
  go_loopw [3] (fun i wr => ∃ k : Nat, i = .int .i64 ((k : Int) + 1) ∧ (k ≤ L.length) ∧ Hid (upB L (k + 1)) ∧ Stay (fun _ => False) w wr) (fun i _ => L.length + 1 - (intOf i).toNat)
  case atStart => exact ⟨0, rfl, Nat.zero_le _, Lib.hid (fun i hi => by omega), Stay.refl _ _⟩
  case round =>
    obtain ⟨k, rfl, hk, hb, hst⟩ := hrel
    have HS := Lib.hid hst
    clear hst
    by_cases hlt : k + 1 < L.length
    · obtain ⟨e1, he1, hk1⟩ := at_of (L := L) (i := k) (by omega)
      obtain ⟨e2, he2, hk2⟩ := at_of (L := L) (i := k + 1) hlt
      obtain ⟨g, o, rfl, _, hc⟩ := (HX.out.stay0 HS.out).at (by omega)
      have c0 := (hc _ e1 he1).1
      have d0 := (hc _ e2 he2).1
      have K1 := Lib.hid hk1
      have K2 := Lib.hid hk2
      clear hc he1 he2 hk1 hk2
      go_wp2
      go_quiet (fail)
      have HS9 := Lib.hid (HS.out.trans (Pk.stay_drewN (X := fun _ => False) wr nq))
      rw [leq_not]
      cases hlt3 : ltB e1.k e2.k with
      | true =>
        have HB := Lib.hid (show upB L (k + 1 + 1) from fun i hi => by
          by_cases h : i = k
          · subst h; rw [K1.out, K2.out]; exact hlt3
          · exact hb.out i (by omega))
        clear hlt3
        rw [show (!true) = false from rfl]
        go_wp2
        go_roundw
        case rel => exact ⟨k + 1, by go_num, by omega, HB, HS9.out⟩
        case measure => simp [intOf]; omega
      | false =>
        have hu := HF.out k hlt (by rw [K1.out, K2.out]; exact hlt3)
        clear hlt3
        subst hu
        rw [show (!false) = true from rfl]
        go_wp2
        go_ret
        exact ⟨rfl, HS9.out⟩
    · have hu := HT.out (fun i hi => hb.out i (by omega))
      subst hu
      go_wp2
      go_ret
      exact ⟨rfl, HS.out⟩

set_option maxHeartbeats 4000000 in
theorem sealed_any (w : World) (x : Value) (L : List En) (hx : EnS w x L) (hl : L.length ≤ 1000000) (hz : sizeL L ≤ 100000000000000) :
    Calls Tryz.prog 33 #[x] w fun e w' => ∃ v, e = .returned v ∧ Owns w.heap.size w' v (partB L) ∧ Stay (fun _ => False) w w' := by
  have HX := Lib.hid hx
  obtain ⟨a0, c, rfl⟩ := hx.form
  have hrl := (len_rowsB L).2
  have hsp := (len_spellB L.length).2
  obtain ⟨n, hn⟩ : ∃ n, n = L.length := ⟨_, rfl⟩
  have HN := Lib.hid hn
  have hcm : (n : Int) ≤ 1000000 := by omega
  have HRL := Lib.hid (show (spellB n ++ rowsB L).length + 100 ≤ 110000000000000 by rw [List.length_append, hn]; omega)
  rw [← hn]
  clear hx hl hz hrl hsp hn
  go_enter Tryz.func33, Tryz.ntmps33
  go_wp2_with fail
  refine (Pk.refuint_at w _ [] n _ (by omega) (Owns.nil 0 w).slc (by omega) (by simp)).mono ?_
  rintro e w1 ⟨v1, rfl, ho1, hs1⟩
  rw [List.nil_append] at ho1
  have HB1 := Lib.hid ho1.slc
  have HS1 := Lib.hid hs1
  clear ho1 hs1
  go_wp2
  go_loopw [3, 4] (fun v i wr => ∃ j : Nat, j ≤ n ∧ i = .int .i64 (j : Int) ∧ Hid (Slc wr v (spellB n ++ rowsB (L.take j))) ∧ Stay (fun _ => False) w wr) (fun _ i _ => n - (intOf i).toNat)
  case atStart => exact ⟨0, Nat.zero_le _, rfl, by rw [List.take_zero, show rowsB [] = [] from rfl, List.append_nil]; exact HB1, HS1.out⟩
  case round =>
    obtain ⟨j, hj, rfl, hv, hst⟩ := hrel
    have HT := Lib.hid hst
    clear hst
    by_cases hlt : j < n
    · obtain ⟨e, he⟩ : ∃ e, L[j]? = some e := ⟨_, List.getElem?_eq_getElem (by rw [← HN.out]; omega)⟩
      obtain ⟨g, o, rfl, _, hc⟩ := (HX.out.stay0 HT.out).at (by rw [← HN.out]; omega)
      obtain ⟨c0, c1, c2⟩ := hc _ e he
      have HC0 := Lib.hid c0
      have HK := Lib.hid (show spellB n ++ rowsB (L.take (j + 1)) = spellB n ++ rowsB (L.take j) ++ bytesB e.k ++ boolB e.g ++ bytesB (norm e).v by rw [rows_take he, entB]; simp only [List.append_assoc])
      have HEL := Lib.hid (show (spellB n ++ rowsB (L.take j)).length + 9 + e.k.length + 9 + (norm e).v.length ≤ 120000000000000 by
        have h0 : (spellB n ++ rowsB (L.take (j + 1))).length ≤ 110000000000000 := by
          have h1 := rows_le L (j + 1)
          have h2 := HRL.out
          rw [List.length_append] at h2 ⊢
          omega
        rw [HK.out] at h0
        have h3 := (len_bytesB e.k).1
        have h4 := (len_bytesB (norm e).v).1
        simp only [List.length_append, len_boolB] at h0 ⊢
        omega)
      obtain ⟨R, hR⟩ : ∃ R, R = spellB n ++ rowsB (L.take j) := ⟨_, rfl⟩
      have hv2 := hv.out
      rw [← hR] at HK HEL hv2
      have HSV := Lib.hid hv2
      obtain ⟨va, cv, rfl, _⟩ := hv2
      have hjn : (j : Int) < n := by omega
      clear he hc hR hv
      cases hg : e.g with
      | false =>
        rw [hg] at c2
        have HNV := Lib.hid (show (norm e).v = e.v by rw [Me.norm_v, hg]; rfl)
        go_wp2
        rw [show Me.strV e.v = Value.string ⟨(norm e).v.toArray⟩ by rw [HNV.out]]
        have HC2 := Lib.hid (show wr.cell? ⟨g, o + j * 3 + 2, none⟩ = some (.bool e.g) by rw [hg]; exact c2)
        clear c0 c1 c2 hg
        refine wp_region_held (S := Stay (fun _ => False) wr.drew) (by kernel_rfl) ?_
        change wpAnyH _ _ _ _ _ _ _ _ (World.drew _)
        have hst : Stay (fun _ => False) wr wr.drew := Stay.drew
        refine wpAnyH_takeL (i := 0) (v := .slice va R.length cv) #[true, false, false, false, false, false, false, false, false, false, false, false, false, false, false, false] rfl (by kernel_rfl) (by kernel_rfl) (by kernel_rfl) (fun _ _ _ h => h) (by kernel_rfl) (Stay.refl _ _) (Or.inl ⟨by rfl, fun W hW => ?_⟩) ?_
        · go_simp
        conv => arg 8; simp [Act.put]
        refine wpAnyH_takeL (i := 1) (v := .slice (some ⟨g, o, none⟩) n c) #[true, true, false, false, false, false, false, false, false, false, false, false, false, false, false, false] rfl (by kernel_rfl) (by kernel_rfl) (by kernel_rfl) (fun _ _ _ h => h) (by kernel_rfl) (Stay.refl _ _) (Or.inl ⟨by rfl, fun W hW => ?_⟩) ?_
        · go_simp
        conv => arg 8; simp [Act.put]
        refine wpAnyH_takeL (i := 2) (v := .int .i64 (j : Int)) #[true, true, true, false, false, false, false, false, false, false, false, false, false, false, false, false] rfl (by kernel_rfl) (by kernel_rfl) (by kernel_rfl) (fun _ _ _ h => h) (by kernel_rfl) (Stay.refl _ _) (Or.inl ⟨by rfl, fun W hW => ?_⟩) ?_
        · go_simp
        conv => arg 8; simp [Act.put]
        refine wpAnyH_takeL (i := 3) (v := .pointer (some ⟨g, o + j * 3, none⟩)) #[true, true, true, true, false, false, false, false, false, false, false, false, false, false, false, false] rfl (by kernel_rfl) (by kernel_rfl) (by kernel_rfl) (fun _ _ _ h => h) (by kernel_rfl) (Stay.refl _ _) (Or.inl ⟨by rfl, fun W hW => ?_⟩) ?_
        · go_simp
        conv => arg 8; simp [Act.put]
        refine wpAnyH_takeL (i := 4) (v := .pointer (some ⟨g, o + j * 3, none⟩)) #[true, true, true, true, true, false, false, false, false, false, false, false, false, false, false, false] rfl (by kernel_rfl) (by kernel_rfl) (by kernel_rfl) (fun _ _ _ h => h) (by kernel_rfl) (Stay.refl _ _) (Or.inl ⟨by rfl, fun W hW => ?_⟩) ?_
        · go_simp
        conv => arg 8; simp [Act.put]
        refine wpAnyH_takeL (i := 5) (v := Me.strV e.k) #[true, true, true, true, true, true, false, false, false, false, false, false, false, false, false, false] rfl (by kernel_rfl) (by kernel_rfl) (by kernel_rfl) (fun _ _ _ h => h) (by kernel_rfl) (Stay.refl _ _) (Or.inl ⟨by rfl, fun W hW => ?_⟩) ?_
        · have kc := (hst.trans hW).cell HC0.out (fun x => x)
          go_simp
        conv => arg 8; simp [Act.put]
        refine wpAnyH_takeL (i := 7) (v := .slice (some ⟨g, o, none⟩) n c) #[true, true, true, true, true, true, false, true, false, false, false, false, false, false, false, false] rfl (by kernel_rfl) (by kernel_rfl) (by kernel_rfl) (fun _ _ _ h => h) (by kernel_rfl) (Stay.refl _ _) (Or.inl ⟨by rfl, fun W hW => ?_⟩) ?_
        · go_simp
        conv => arg 8; simp [Act.put]
        refine wpAnyH_takeL (i := 8) (v := .int .i64 (j : Int)) #[true, true, true, true, true, true, false, true, true, false, false, false, false, false, false, false] rfl (by kernel_rfl) (by kernel_rfl) (by kernel_rfl) (fun _ _ _ h => h) (by kernel_rfl) (Stay.refl _ _) (Or.inl ⟨by rfl, fun W hW => ?_⟩) ?_
        · go_simp
        conv => arg 8; simp [Act.put]
        refine wpAnyH_takeL (i := 9) (v := .pointer (some ⟨g, o + j * 3, none⟩)) #[true, true, true, true, true, true, false, true, true, true, false, false, false, false, false, false] rfl (by kernel_rfl) (by kernel_rfl) (by kernel_rfl) (fun _ _ _ h => h) (by kernel_rfl) (Stay.refl _ _) (Or.inl ⟨by rfl, fun W hW => ?_⟩) ?_
        · go_simp
        conv => arg 8; simp [Act.put]
        refine wpAnyH_takeL (i := 10) (v := .pointer (some ⟨g, o + j * 3 + 2, none⟩)) #[true, true, true, true, true, true, false, true, true, true, true, false, false, false, false, false] rfl (by kernel_rfl) (by kernel_rfl) (by kernel_rfl) (fun _ _ _ h => h) (by kernel_rfl) (Stay.refl _ _) (Or.inl ⟨by rfl, fun W hW => ?_⟩) ?_
        · go_simp
        conv => arg 8; simp [Act.put]
        refine wpAnyH_takeL (i := 11) (v := .bool e.g) #[true, true, true, true, true, true, false, true, true, true, true, true, false, false, false, false] rfl (by kernel_rfl) (by kernel_rfl) (by kernel_rfl) (fun _ _ _ h => h) (by kernel_rfl) (Stay.refl _ _) (Or.inl ⟨by rfl, fun W hW => ?_⟩) ?_
        · have kc := (hst.trans hW).cell HC2.out (fun x => x)
          go_simp
        conv => arg 8; simp [Act.put]
        refine wpAnyH_takeL (i := 13) (v := .string ⟨(norm e).v.toArray⟩) #[true, true, true, true, true, true, false, true, true, true, true, true, false, true, false, false] rfl (by kernel_rfl) (by kernel_rfl) (by kernel_rfl) (fun _ _ _ h => h) (by kernel_rfl) (Stay.refl _ _) (Or.inl ⟨by rfl, fun W hW => ?_⟩) ?_
        · go_simp
        conv => arg 8; simp [Act.put]
        refine wpAnyH_one #[true, true, true, true, true, true, true, true, true, true, true, true, false, true, false, false] (i := 6) rfl (by kernel_rfl) (by kernel_rfl) (fun K hK => ?_)
        go_simp
        go_wp2_with (go_at_call 32; refine (Pk.reftext_any wr.drew _ R e.k (HSV.out.stay0 hst) (by have := HEL.out; omega)).mono ?_; rintro e z1 ⟨v6, rfl, ho6, s⟩; have H6 := Lib.hid ho6.slc; clear ho6)
        replace hst := hst.trans s
        refine hK _ _ s ?_
        clear hK
        conv => arg 8; simp [Act.put]
        refine wpAnyH_narrow (S' := Stay (fun _ => False) z1) (fun _ h => s.trans h) _ _ _ _ ?_
        clear s
        refine wpAnyH_one #[true, true, true, true, true, true, true, true, true, true, true, true, true, true, false, false] (i := 12) rfl (by kernel_rfl) (by kernel_rfl) (fun K hK => ?_)
        go_simp
        go_wp2_with (go_at_call 73; refine (Pk.refbool_any z1 v6 (R ++ bytesB e.k) e.g H6.out (by have := HEL.out; have := (len_bytesB e.k).2; rw [List.length_append]; omega)).mono ?_; rintro e z2 ⟨v12, rfl, ho12, s⟩; have H12 := Lib.hid ho12.slc; clear ho12)
        replace hst := hst.trans s
        refine hK _ _ s ?_
        clear hK
        conv => arg 8; simp [Act.put]
        refine wpAnyH_narrow (S' := Stay (fun _ => False) z2) (fun _ h => s.trans h) _ _ _ _ ?_
        clear s
        refine wpAnyH_one #[true, true, true, true, true, true, true, true, true, true, true, true, true, true, true, false] (i := 14) rfl (by kernel_rfl) (by kernel_rfl) (fun K hK => ?_)
        go_simp
        go_wp2_with (go_at_call 32; refine (Pk.reftext_any z2 v12 (R ++ bytesB e.k ++ boolB e.g) (norm e).v H12.out (by have := HEL.out; have := (len_bytesB e.k).2; rw [List.length_append, List.length_append, len_boolB]; omega)).mono ?_; rintro e z3 ⟨v14, rfl, ho14, s⟩; have H14 := Lib.hid ho14.slc; obtain ⟨a14, l14, c14, rfl⟩ : ∃ a l c, v14 = .slice a l c := (by obtain ⟨a, c, e⟩ := ho14.form; exact ⟨a, _, c, e⟩); clear ho14)
        replace hst := hst.trans s
        refine hK _ _ s ?_
        clear hK
        conv => arg 8; simp [Act.put]
        refine wpAnyH_narrow (S' := Stay (fun _ => False) z3) (fun _ h => s.trans h) _ _ _ _ ?_
        clear s
        refine wpAnyH_takeL (i := 15) (v := .slice a14 l14 c14) #[true, true, true, true, true, true, true, true, true, true, true, true, true, true, true, true] rfl (by kernel_rfl) (by kernel_rfl) (by kernel_rfl) (fun _ _ _ h => h) (by kernel_rfl) (Stay.refl _ _) (Or.inl ⟨by rfl, fun W hW => ?_⟩) ?_
        · go_simp
        conv => arg 8; simp [Act.put]
        refine wpAnyH_done (by kernel_rfl) ?_ _
        have HSF := Lib.hid (HT.out.trans hst)
        have HRF := Lib.hid (show Slc z3 (.slice a14 l14 c14) (spellB n ++ rowsB (L.take (j + 1))) by rw [HK.out]; exact H14.out)
        clear hst
        go_wp2
        go_roundw
        case rel => exact ⟨j + 1, hlt, by go_num, HRF, HSF.out⟩
        case measure => simp [intOf]; omega
      | true =>
        rw [hg] at c2
        have HNV := Lib.hid (show (norm e).v = [] by rw [Me.norm_v, hg]; rfl)
        go_wp2
        rw [show Value.string ⟨#[]⟩ = Value.string ⟨(norm e).v.toArray⟩ by rw [HNV.out]]
        have HC2 := Lib.hid (show wr.cell? ⟨g, o + j * 3 + 2, none⟩ = some (.bool e.g) by rw [hg]; exact c2)
        clear c0 c1 c2 hg
        refine wp_region_held (S := Stay (fun _ => False) wr.drew) (by kernel_rfl) ?_
        change wpAnyH _ _ _ _ _ _ _ _ (World.drew _)
        have hst : Stay (fun _ => False) wr wr.drew := Stay.drew
        refine wpAnyH_takeL (i := 0) (v := .slice va R.length cv) #[true, false, false, false, false, false, false, false, false, false, false, false, false, false, false, false] rfl (by kernel_rfl) (by kernel_rfl) (by kernel_rfl) (fun _ _ _ h => h) (by kernel_rfl) (Stay.refl _ _) (Or.inl ⟨by rfl, fun W hW => ?_⟩) ?_
        · go_simp
        conv => arg 8; simp [Act.put]
        refine wpAnyH_takeL (i := 1) (v := .slice (some ⟨g, o, none⟩) n c) #[true, true, false, false, false, false, false, false, false, false, false, false, false, false, false, false] rfl (by kernel_rfl) (by kernel_rfl) (by kernel_rfl) (fun _ _ _ h => h) (by kernel_rfl) (Stay.refl _ _) (Or.inl ⟨by rfl, fun W hW => ?_⟩) ?_
        · go_simp
        conv => arg 8; simp [Act.put]
        refine wpAnyH_takeL (i := 2) (v := .int .i64 (j : Int)) #[true, true, true, false, false, false, false, false, false, false, false, false, false, false, false, false] rfl (by kernel_rfl) (by kernel_rfl) (by kernel_rfl) (fun _ _ _ h => h) (by kernel_rfl) (Stay.refl _ _) (Or.inl ⟨by rfl, fun W hW => ?_⟩) ?_
        · go_simp
        conv => arg 8; simp [Act.put]
        refine wpAnyH_takeL (i := 3) (v := .pointer (some ⟨g, o + j * 3, none⟩)) #[true, true, true, true, false, false, false, false, false, false, false, false, false, false, false, false] rfl (by kernel_rfl) (by kernel_rfl) (by kernel_rfl) (fun _ _ _ h => h) (by kernel_rfl) (Stay.refl _ _) (Or.inl ⟨by rfl, fun W hW => ?_⟩) ?_
        · go_simp
        conv => arg 8; simp [Act.put]
        refine wpAnyH_takeL (i := 4) (v := .pointer (some ⟨g, o + j * 3, none⟩)) #[true, true, true, true, true, false, false, false, false, false, false, false, false, false, false, false] rfl (by kernel_rfl) (by kernel_rfl) (by kernel_rfl) (fun _ _ _ h => h) (by kernel_rfl) (Stay.refl _ _) (Or.inl ⟨by rfl, fun W hW => ?_⟩) ?_
        · go_simp
        conv => arg 8; simp [Act.put]
        refine wpAnyH_takeL (i := 5) (v := Me.strV e.k) #[true, true, true, true, true, true, false, false, false, false, false, false, false, false, false, false] rfl (by kernel_rfl) (by kernel_rfl) (by kernel_rfl) (fun _ _ _ h => h) (by kernel_rfl) (Stay.refl _ _) (Or.inl ⟨by rfl, fun W hW => ?_⟩) ?_
        · have kc := (hst.trans hW).cell HC0.out (fun x => x)
          go_simp
        conv => arg 8; simp [Act.put]
        refine wpAnyH_takeL (i := 7) (v := .slice (some ⟨g, o, none⟩) n c) #[true, true, true, true, true, true, false, true, false, false, false, false, false, false, false, false] rfl (by kernel_rfl) (by kernel_rfl) (by kernel_rfl) (fun _ _ _ h => h) (by kernel_rfl) (Stay.refl _ _) (Or.inl ⟨by rfl, fun W hW => ?_⟩) ?_
        · go_simp
        conv => arg 8; simp [Act.put]
        refine wpAnyH_takeL (i := 8) (v := .int .i64 (j : Int)) #[true, true, true, true, true, true, false, true, true, false, false, false, false, false, false, false] rfl (by kernel_rfl) (by kernel_rfl) (by kernel_rfl) (fun _ _ _ h => h) (by kernel_rfl) (Stay.refl _ _) (Or.inl ⟨by rfl, fun W hW => ?_⟩) ?_
        · go_simp
        conv => arg 8; simp [Act.put]
        refine wpAnyH_takeL (i := 9) (v := .pointer (some ⟨g, o + j * 3, none⟩)) #[true, true, true, true, true, true, false, true, true, true, false, false, false, false, false, false] rfl (by kernel_rfl) (by kernel_rfl) (by kernel_rfl) (fun _ _ _ h => h) (by kernel_rfl) (Stay.refl _ _) (Or.inl ⟨by rfl, fun W hW => ?_⟩) ?_
        · go_simp
        conv => arg 8; simp [Act.put]
        refine wpAnyH_takeL (i := 10) (v := .pointer (some ⟨g, o + j * 3 + 2, none⟩)) #[true, true, true, true, true, true, false, true, true, true, true, false, false, false, false, false] rfl (by kernel_rfl) (by kernel_rfl) (by kernel_rfl) (fun _ _ _ h => h) (by kernel_rfl) (Stay.refl _ _) (Or.inl ⟨by rfl, fun W hW => ?_⟩) ?_
        · go_simp
        conv => arg 8; simp [Act.put]
        refine wpAnyH_takeL (i := 11) (v := .bool e.g) #[true, true, true, true, true, true, false, true, true, true, true, true, false, false, false, false] rfl (by kernel_rfl) (by kernel_rfl) (by kernel_rfl) (fun _ _ _ h => h) (by kernel_rfl) (Stay.refl _ _) (Or.inl ⟨by rfl, fun W hW => ?_⟩) ?_
        · have kc := (hst.trans hW).cell HC2.out (fun x => x)
          go_simp
        conv => arg 8; simp [Act.put]
        refine wpAnyH_takeL (i := 13) (v := .string ⟨(norm e).v.toArray⟩) #[true, true, true, true, true, true, false, true, true, true, true, true, false, true, false, false] rfl (by kernel_rfl) (by kernel_rfl) (by kernel_rfl) (fun _ _ _ h => h) (by kernel_rfl) (Stay.refl _ _) (Or.inl ⟨by rfl, fun W hW => ?_⟩) ?_
        · go_simp
        conv => arg 8; simp [Act.put]
        refine wpAnyH_one #[true, true, true, true, true, true, true, true, true, true, true, true, false, true, false, false] (i := 6) rfl (by kernel_rfl) (by kernel_rfl) (fun K hK => ?_)
        go_simp
        go_wp2_with (go_at_call 32; refine (Pk.reftext_any wr.drew _ R e.k (HSV.out.stay0 hst) (by have := HEL.out; omega)).mono ?_; rintro e z1 ⟨v6, rfl, ho6, s⟩; have H6 := Lib.hid ho6.slc; clear ho6)
        replace hst := hst.trans s
        refine hK _ _ s ?_
        clear hK
        conv => arg 8; simp [Act.put]
        refine wpAnyH_narrow (S' := Stay (fun _ => False) z1) (fun _ h => s.trans h) _ _ _ _ ?_
        clear s
        refine wpAnyH_one #[true, true, true, true, true, true, true, true, true, true, true, true, true, true, false, false] (i := 12) rfl (by kernel_rfl) (by kernel_rfl) (fun K hK => ?_)
        go_simp
        go_wp2_with (go_at_call 73; refine (Pk.refbool_any z1 v6 (R ++ bytesB e.k) e.g H6.out (by have := HEL.out; have := (len_bytesB e.k).2; rw [List.length_append]; omega)).mono ?_; rintro e z2 ⟨v12, rfl, ho12, s⟩; have H12 := Lib.hid ho12.slc; clear ho12)
        replace hst := hst.trans s
        refine hK _ _ s ?_
        clear hK
        conv => arg 8; simp [Act.put]
        refine wpAnyH_narrow (S' := Stay (fun _ => False) z2) (fun _ h => s.trans h) _ _ _ _ ?_
        clear s
        refine wpAnyH_one #[true, true, true, true, true, true, true, true, true, true, true, true, true, true, true, false] (i := 14) rfl (by kernel_rfl) (by kernel_rfl) (fun K hK => ?_)
        go_simp
        go_wp2_with (go_at_call 32; refine (Pk.reftext_any z2 v12 (R ++ bytesB e.k ++ boolB e.g) (norm e).v H12.out (by have := HEL.out; have := (len_bytesB e.k).2; rw [List.length_append, List.length_append, len_boolB]; omega)).mono ?_; rintro e z3 ⟨v14, rfl, ho14, s⟩; have H14 := Lib.hid ho14.slc; obtain ⟨a14, l14, c14, rfl⟩ : ∃ a l c, v14 = .slice a l c := (by obtain ⟨a, c, e⟩ := ho14.form; exact ⟨a, _, c, e⟩); clear ho14)
        replace hst := hst.trans s
        refine hK _ _ s ?_
        clear hK
        conv => arg 8; simp [Act.put]
        refine wpAnyH_narrow (S' := Stay (fun _ => False) z3) (fun _ h => s.trans h) _ _ _ _ ?_
        clear s
        refine wpAnyH_takeL (i := 15) (v := .slice a14 l14 c14) #[true, true, true, true, true, true, true, true, true, true, true, true, true, true, true, true] rfl (by kernel_rfl) (by kernel_rfl) (by kernel_rfl) (fun _ _ _ h => h) (by kernel_rfl) (Stay.refl _ _) (Or.inl ⟨by rfl, fun W hW => ?_⟩) ?_
        · go_simp
        conv => arg 8; simp [Act.put]
        refine wpAnyH_done (by kernel_rfl) ?_ _
        have HSF := Lib.hid (HT.out.trans hst)
        have HRF := Lib.hid (show Slc z3 (.slice a14 l14 c14) (spellB n ++ rowsB (L.take (j + 1))) by rw [HK.out]; exact H14.out)
        clear hst
        go_wp2
        go_roundw
        case rel => exact ⟨j + 1, hlt, by go_num, HRF, HSF.out⟩
        case measure => simp [intOf]; omega
    · obtain rfl : j = n := by omega
      have hv' := hv.out
      rw [HN.out, List.take_length] at hv'
      obtain ⟨T, hT⟩ : ∃ T, T = spellB L.length ++ rowsB L := ⟨_, rfl⟩
      have HTT := Lib.hid (show partB L = Hn.sealB T by rw [hT]; rfl)
      rw [← hT] at hv'
      have HSL := Lib.hid hv'
      have HTL := Lib.hid (show T.length + 100 ≤ 110000000000000 by rw [hT, ← HN.out]; exact HRL.out)
      obtain ⟨va, cv, rfl, _⟩ := hv'
      clear hT hv
      go_wp2_with fail
      refine (Hn.rseal_any _ T wr HSL.out (by have := HTL.out; omega)).mono ?_
      rintro e w4 ⟨v4, rfl, ho4, hs4⟩
      have HO4 := Lib.hid (ho4.base (base' := w.heap.size) (fun k hk => Nat.le_trans HT.out.size (ho4.lt k hk).1))
      have HT4 := Lib.hid (HT.out.trans hs4)
      clear ho4 hs4
      go_wp2
      go_ret
      exact ⟨v4, rfl, by rw [HTT.out]; exact HO4.out, HT4.out⟩
end Go.Proofs.YteogdihacohkfaaGreatDoor.Tb
