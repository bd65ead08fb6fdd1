/-
  mem: the document's Put.
-/
import Derived.Test.YtdfhjmodacjilaaMeH
import Derived.Test.YtdfhjmodacjilaaMeE
namespace Go.Proofs.Ytdfhjmodacjilaa.Me
open Go.RowKit Go.Maps
set_option maxRecDepth 100000
set_option linter.unusedVariables false

theorem stay_drewN {X : Nat → Prop} (w : World) (n : Nat) : Stay X w (w.drewN n) := ⟨rfl, rfl, rfl, Nat.le_refl _, fun _ _ _ => rfl⟩
theorem posN_next {L : List En} {k : List UInt8} {j : Nat} (hj : j ≤ posN L k) {e : En} (he : L[j]? = some e) (hl : ltB e.k k = true) : j + 1 ≤ posN L k := by
  by_cases h : j = posN L k
  · subst h
    rw [posN_at k L e he] at hl
    cases hl
  · omega
theorem posN_stop {L : List En} {k : List UInt8} {j : Nat} (hj : j ≤ posN L k) {e : En} (he : L[j]? = some e) (hl : ltB e.k k = false) : posN L k = j := by
  by_cases h : j = posN L k
  · exact h.symm
  · rw [posN_lt k L j (by omega) e he] at hl
    cases hl

theorem EnS.empty (w : World) (ad : Addr) : EnS w (.slice (some ad) 0 0) [] := ⟨_, 0, rfl, Nat.le_refl _, by decide, (fun h => by cases h), fun h => absurd h (Nat.lt_irrefl 0)⟩
theorem EnS.cut_some {w : World} {g o n c m : Nat} {L : List En} (h : EnS w (.slice (some ⟨g, o, none⟩) n c) L) (hm : m ≤ L.length) (hc : ¬ c = m) : EnS w (.slice (some ⟨g, o + m * 3, none⟩) (n - m) (c - m)) (L.drop m) := by
  have h1 := h.cut hm
  rw [if_neg hc, Option.map_some, add_at] at h1
  exact h1

set_option maxHeartbeats 4000000 in
theorem rput_any (w : World) (x : Value) (L : List En) (e : En) (hx : EnS w x L) (hl : L.length ≤ 1000) :
    Calls Try.prog 6 #[x, enV e] w fun y w' => ∃ v, y = .returned v ∧ EnO w.heap.size w' v (putL L e) ∧ Stay (fun _ => False) w w' := by
  have HX0 := Lib.hid hx
  have hs0 : Stay (fun _ => False) w (w.alloc (.cells (enC e).toArray 28)) := Stay.alloc _ _
  have hb0 := Box.new w e
  have hz0 : (w.alloc (.cells (enC e).toArray 28)).heap.size = w.heap.size + 1 := by simp
  obtain ⟨w0, hw0⟩ : ∃ w0, w.alloc (.cells (enC e).toArray 28) = w0 := ⟨_, rfl⟩
  rw [hw0] at hs0 hb0 hz0
  have W0 := Lib.hid hw0
  have HS0 := Lib.hid hs0
  have HB0 := Lib.hid hb0
  have c0 := hb0.c (j := 0) rfl
  have c1 := hb0.c (j := 1) rfl
  have c2 := hb0.c (j := 2) rfl
  have f1 := hb0.fr 1
  have HL := Lib.hid hl
  have HZ0 := Lib.hid hz0
  obtain ⟨a0, c, rfl, hnc, hcm, hnil, _⟩ := hx
  have HNIL := Lib.hid hnil
  clear hw0 hs0 hb0 hz0 hl hnil
  unfold enV enC
  unfold enC at W0
  go_enter Try.func6, Try.ntmps6
  cases hg : e.g with
  | false =>
    have hbx : Box w0 w.heap.size (norm e) := by
      unfold norm
      rw [if_neg (by rw [hg]; decide)]
      exact HB0.out
    have hst : Stay (fun _ => False) w w0 := HS0.out
    have hsz : w0.heap.size = w.heap.size + 1 := HZ0.out
    rw [hg] at c2 W0
    go_wp2_with (rw [W0.out])
    obtain ⟨wb, rfl⟩ : ∃ wb, wb = w0 := ⟨_, rfl⟩
    have HBX := Lib.hid hbx
    have HST := Lib.hid hst
    have HSZ := Lib.hid hsz
    have HX := Lib.hid (HX0.out.stay0 hst)
    clear hbx hst hsz c0 c1 c2 f1 W0 HS0 HB0
    go_loopw [6] (fun i wr => ∃ j : Nat, i = .int .i64 (j : Int) ∧ j ≤ posN L e.k ∧ Stay (fun _ => False) wb wr) (fun i _ => L.length - (intOf i).toNat)
    case atStart => exact ⟨0, rfl, Nat.zero_le _, Stay.refl _ _⟩
    case round =>
      obtain ⟨j, rfl, hj, hst⟩ := hrel
      have hple := posN_le e.k L
      have HT := Lib.hid hst
      have HBR := Lib.hid (HBX.out.stay0 hst)
      have HXR := Lib.hid (HX.out.stay0 hst)
      clear hst
      have b0 := HBR.out.c (j := 0) rfl
      rw [norm_k] at b0
      by_cases hlt : j < L.length
      · obtain ⟨q, hq⟩ : ∃ q, L[j]? = some q := ⟨_, List.getElem?_eq_getElem hlt⟩
        obtain ⟨g, o, rfl, _, hc⟩ := HXR.out.at (by omega)
        obtain ⟨h0, h1, h2⟩ := hc _ q hq
        have hle := less_eq q.k e.k
        clear hc h1 h2
        have HQ := Lib.hid hq
        clear hq
        cases hlk : ltB q.k e.k with
        | true =>
          have HN := Lib.hid (posN_next hj HQ.out hlk)
          rw [hlk] at hle
          go_wp2
          go_quiet (fail)
          have HT2 := Lib.hid (HT.out.trans (stay_drewN (X := fun _ => False) wr nq))
          clear b0 h0
          go_wp2
          refine ⟨⟨j + 1, by go_num, HN.out, HT2.out⟩, by simp [intOf]; omega⟩
        | false =>
          have HP := Lib.hid (posN_stop hj HQ.out hlk)
          rw [hlk] at hle
          have hjl : j ≤ L.length := by omega
          go_wp2
          go_quiet (fail)
          have HS2 := Lib.hid (stay_drewN (X := fun _ => False) wr nq)
          generalize wr.drewN nq = w2 at *
          clear b0 h0 hle hj hple
          have HXW := Lib.hid (HXR.out.stay0 HS2.out)
          have HBW := Lib.hid (HBR.out.stay0 HS2.out)
          have HTW := Lib.hid (HST.out.trans (HT.out.trans HS2.out))
          have HLW := Lib.hid (show w.heap.size + 1 ≤ w2.heap.size by have h1 := (HT.out.trans HS2.out).size; have h2 := HSZ.out; omega)
          clear HXR HBR HS2
          go_wp2
          refine wp_region_held (S := Stay (fun _ => False) w2.drew) (by kernel_rfl) ?_
          change wpAnyH _ _ _ _ _ _ _ _ (World.drew _)
          refine wpAnyH_takeL (i := 0) (v := .slice none 0 0) #[true, false, false, false, false, false, false, false, false] rfl (by kernel_rfl) (by kernel_rfl) (by kernel_rfl) (fun _ _ _ h => h) (by kernel_rfl) (Stay.refl _ _) (Or.inl ⟨by rfl, fun W hW => ?_⟩) ?_
          · go_simp
          conv => arg 8; simp [Act.put]
          refine wpAnyH_takeL (i := 1) (v := .slice (some ⟨g, o, none⟩) L.length c) #[true, true, false, false, false, false, false, false, false] rfl (by kernel_rfl) (by kernel_rfl) (by kernel_rfl) (fun _ _ _ h => h) (by kernel_rfl) (Stay.refl _ _) (Or.inl ⟨by rfl, fun W hW => ?_⟩) ?_
          · go_simp
          conv => arg 8; simp [Act.put]
          refine wpAnyH_takeL (i := 2) (v := .int .i64 (j : Int)) #[true, true, true, false, false, false, false, false, false] rfl (by kernel_rfl) (by kernel_rfl) (by kernel_rfl) (fun _ _ _ h => h) (by kernel_rfl) (Stay.refl _ _) (Or.inl ⟨by rfl, fun W hW => ?_⟩) ?_
          · go_simp
          conv => arg 8; simp [Act.put]
          refine wpAnyH_takeL (i := 3) (v := .slice (some ⟨g, o, none⟩) j c) #[true, true, true, true, false, false, false, false, false] rfl (by kernel_rfl) (by kernel_rfl) (by kernel_rfl) (fun _ _ _ h => h) (by kernel_rfl) (Stay.refl _ _) (Or.inl ⟨by rfl, fun W hW => ?_⟩) ?_
          · (go_simp; try (intro hcj; exfalso; omega))
          conv => arg 8; simp [Act.put]
          refine wpAnyH_takeL (i := 5) #[true, true, true, true, false, true, false, false, false] rfl (by kernel_rfl) (by kernel_rfl) (by kernel_rfl) (fun _ _ _ h => h) (by kernel_rfl) (Stay.refl _ _) (yieldsIf_load rfl 28 (.tmp 3) rfl ⟨w.heap.size, 0, none⟩ rfl _ (fun W hW => ((show Box w2.drew w.heap.size (norm e) from HBW.out).stay0 hW).run_load)) ?_
          conv => arg 8; simp [Act.put]
          refine wpAnyH_ready (rs := [4, 6]) (by kernel_rfl) (by simp) ?_
          refine AllReadyH.cons (o := _) rfl (fun K hK => ?_) ?_
          · refine step_append_en rfl (.tmp 26) (.tmp 29) 25 rfl Try.underlying25 rfl rfl (EnO.nil w2.heap.size w2.drew) ((show EnS w2.drew (.slice (some ⟨g, o, none⟩) L.length c) L from HXW.out).first hjl) (by rw [List.length_nil, List.length_take]; have := HL.out; omega) (by exact Nat.le_refl _) ?_
            intro v1 z1 ho1 hs1 hb1
            have hs1' : Stay (fun _ => False) w2.drew z1 := hs1.mono (fun k hk => by cases hk)
            have HS1 := Lib.hid hs1'
            refine Shut.out hK _ _ HS1.out (fun _ => ?_)
            have HO1 := Lib.hid (show EnO w2.heap.size z1 v1 (L.take j) from ho1)
            clear ho1 hs1 hs1' hb1 hK
            refine wpAnyH_listedL #[true, true, true, true, true, true, false, false, false] (by kernel_rfl) ?_
            conv => arg 8; simp [Act.put]
            refine wpAnyH_one #[true, true, true, true, true, true, true, false, false] (i := 6) rfl (by kernel_rfl) (by kernel_rfl) (fun K hK => ?_)
            refine step_one_en rfl (.tmp 31) rfl (norm e) rfl ?_
            have hbn := Box.new z1 (norm e)
            have hsn : Stay (fun _ => False) z1 (z1.alloc (.cells (enC (norm e)).toArray 28)) := Stay.alloc _ _
            obtain ⟨za, hza⟩ : ∃ za, z1.alloc (.cells (enC (norm e)).toArray 28) = za := ⟨_, rfl⟩
            rw [hza] at hbn hsn ⊢
            have HSA := Lib.hid (HS1.out.trans hsn)
            have HO2 := Lib.hid (HO1.out.stay0 hsn)
            refine hK _ _ HSA.out ?_
            have HBN := Lib.hid hbn
            clear hbn hsn hza hK
            conv => arg 8; simp [Act.put]
            refine wpAnyH_one #[true, true, true, true, true, true, true, true, false] (i := 7) rfl (by kernel_rfl) (by kernel_rfl) (fun K hK => ?_)
            refine step_append_en rfl (.tmp 30) (.tmp 32) 25 rfl Try.underlying25 rfl rfl HO2.out (HBN.out.one 1 (by decide) (by decide)) (by rw [List.length_take, List.length_singleton]; have := HL.out; omega) (by exact HSA.out.size) ?_
            intro v2 z3 ho3 hs3 hb3
            have HS3 := Lib.hid (stay_seal (((HSA.out).mono (Y := fun k => v1.ownBlock = some k) (fun _ x => x.elim)).trans hs3) (fun k hk => ((HO2.out).lt k hk).1))
            have HO3 := Lib.hid ho3
            refine hK _ _ HS3.out ?_
            clear ho3 hs3 hb3 hK
            conv => arg 8; simp [Act.put]
            refine wpAnyH_takeL (i := 8) (v := v2) #[true, true, true, true, true, true, true, true, true] rfl (by kernel_rfl) (by kernel_rfl) (by kernel_rfl) (fun _ _ _ h => h) (by kernel_rfl) HS3.out (Or.inl ⟨by rfl, fun W hW => ?_⟩) ?_
            · go_simp
            conv => arg 8; simp [Act.put]
            refine wpAnyH_done (by kernel_rfl) ?_ _
            go_wp2
            have HTZ := Lib.hid (HTW.out.trans (Stay.drew.trans HS3.out))
            have HXZ := Lib.hid ((show EnS w2.drew _ L from HXW.out).stay0 HS3.out)
            have HBZ := Lib.hid ((show Box w2.drew w.heap.size (norm e) from HBW.out).stay0 HS3.out)
            have HSW := Lib.hid (HTW.out.size)
            have b0 := HBZ.out.c (j := 0) rfl
            rw [norm_k] at b0
            obtain ⟨g9, o9, e9, _, hc9⟩ := HXZ.out.at (by omega)
            cases e9
            obtain ⟨h0, _, _⟩ := hc9 _ q HQ.out
            clear hc9
            by_cases hk : q.k = e.k
            · have HPT := Lib.hid (show putL L e = (L.take j ++ [norm e]) ++ L.drop (j + 1) by unfold putL; rw [show hasB L e.k = true by unfold hasB; rw [HP.out, HQ.out]; simpa using hk, HP.out]; simp)
              rw [hk] at h0
              go_quiet (fail)
              have HS4 := Lib.hid (stay_drewN (X := fun _ => False) z3 nq)
              generalize z3.drewN nq = z4 at *
              have HO4 := Lib.hid (HO3.out.stay0 HS4.out)
              have HX4 := Lib.hid (HXZ.out.stay0 HS4.out)
              have HT4 := Lib.hid (HTZ.out.trans HS4.out)
              have HW4 := Lib.hid (show w2.heap.size ≤ z4.heap.size from Nat.le_trans (show w2.heap.size ≤ z3.heap.size from HS3.out.size) HS4.out.size)
              clear h0 b0
              by_cases hcm1 : c = j + 1
              · subst hcm1
                have HCUT := Lib.hid (show EnS z4 (.slice (some ⟨g, o, none⟩) 0 0) (L.drop (j + 1)) by rw [List.drop_eq_nil_of_le (by omega)]; exact EnS.empty _ _)
                go_wp2_with (at_builtin; refine wpList_append_en rfl (.tmp 50) (.tmp 53) 25 rfl Try.underlying25 rfl rfl HO4.out HCUT.out (by rw [List.length_append, List.length_take, List.length_singleton, List.length_drop]; have := HL.out; omega) HW4.out ?_; intro v5 w5 ho5 hs5 hb5; have HO5 := Lib.hid ho5; have HS5 := Lib.hid hs5; clear ho5 hs5 hb5)
                go_ret
                exact ⟨_, rfl, by rw [HPT.out]; exact HO5.out.rebase (fun k hk => by have h1 := (HO5.out.lt k hk).1; have h2 := HSW.out; omega), stay_seal ((HT4.out.mono (Y := fun k => v2.ownBlock = some k) (fun _ x => x.elim)).trans HS5.out) (fun k hk => by have h1 := (HO4.out.lt k hk).1; have h2 := HSW.out; omega)⟩
              · have HCUT := Lib.hid (HX4.out.cut_some (m := j + 1) (by omega) hcm1)
                go_wp2_with (at_builtin; refine wpList_append_en rfl (.tmp 50) (.tmp 53) 25 rfl Try.underlying25 rfl rfl HO4.out HCUT.out (by rw [List.length_append, List.length_take, List.length_singleton, List.length_drop]; have := HL.out; omega) HW4.out ?_; intro v5 w5 ho5 hs5 hb5; have HO5 := Lib.hid ho5; have HS5 := Lib.hid hs5; clear ho5 hs5 hb5)
                go_ret
                exact ⟨_, rfl, by rw [HPT.out]; exact HO5.out.rebase (fun k hk => by have h1 := (HO5.out.lt k hk).1; have h2 := HSW.out; omega), stay_seal ((HT4.out.mono (Y := fun k => v2.ownBlock = some k) (fun _ x => x.elim)).trans HS5.out) (fun k hk => by have h1 := (HO4.out.lt k hk).1; have h2 := HSW.out; omega)⟩
            · have HPT := Lib.hid (show putL L e = (L.take j ++ [norm e]) ++ L.drop j by unfold putL; rw [show hasB L e.k = false by unfold hasB; rw [HP.out, HQ.out]; simpa using hk, HP.out]; simp)
              have hkb : (q.k == e.k) = false := by simpa using hk
              go_quiet (fail)
              have HS4 := Lib.hid (stay_drewN (X := fun _ => False) z3 nq)
              generalize z3.drewN nq = z4 at *
              have HO4 := Lib.hid (HO3.out.stay0 HS4.out)
              have HX4 := Lib.hid (HXZ.out.stay0 HS4.out)
              have HT4 := Lib.hid (HTZ.out.trans HS4.out)
              have HW4 := Lib.hid (show w2.heap.size ≤ z4.heap.size from Nat.le_trans (show w2.heap.size ≤ z3.heap.size from HS3.out.size) HS4.out.size)
              clear h0 b0
              have hcj : ¬ c = j := by omega
              have HCUT := Lib.hid (HX4.out.cut_some (m := j) (by omega) hcj)
              go_wp2_with (at_builtin; refine wpList_append_en rfl (.tmp 50) (.tmp 53) 25 rfl Try.underlying25 rfl rfl HO4.out HCUT.out (by rw [List.length_append, List.length_take, List.length_singleton, List.length_drop]; have := HL.out; omega) HW4.out ?_; intro v5 w5 ho5 hs5 hb5; have HO5 := Lib.hid ho5; have HS5 := Lib.hid hs5; clear ho5 hs5 hb5)
              go_ret
              exact ⟨_, rfl, by rw [HPT.out]; exact HO5.out.rebase (fun k hk => by have h1 := (HO5.out.lt k hk).1; have h2 := HSW.out; omega), stay_seal ((HT4.out.mono (Y := fun k => v2.ownBlock = some k) (fun _ x => x.elim)).trans HS5.out) (fun k hk => by have h1 := (HO4.out.lt k hk).1; have h2 := HSW.out; omega)⟩
          refine AllReadyH.cons (o := _) rfl (fun K hK => ?_) ?_
          · refine step_one_en rfl (.tmp 31) rfl (norm e) rfl ?_
            have hbn := Box.new w2.drew (norm e)
            have hsn : Stay (fun _ => False) w2.drew (w2.drew.alloc (.cells (enC (norm e)).toArray 28)) := Stay.alloc _ _
            obtain ⟨za, hza⟩ : ∃ za, w2.drew.alloc (.cells (enC (norm e)).toArray 28) = za := ⟨_, rfl⟩
            rw [hza] at hbn hsn ⊢
            have HSA := Lib.hid hsn
            refine Shut.out hK _ _ HSA.out (fun _ => ?_)
            have HXA := Lib.hid ((show EnS w2.drew _ L from HXW.out).stay0 hsn)
            have HZA := Lib.hid (show w2.heap.size ≤ za.heap.size from hsn.size)
            have HBN := Lib.hid hbn
            clear hbn hsn hza hK
            refine wpAnyH_listedL #[true, true, true, true, false, true, true, false, false] (by kernel_rfl) ?_
            conv => arg 8; simp [Act.put]
            refine wpAnyH_one #[true, true, true, true, true, true, true, false, false] (i := 4) rfl (by kernel_rfl) (by kernel_rfl) (fun K hK => ?_)
            refine step_append_en rfl (.tmp 26) (.tmp 29) 25 rfl Try.underlying25 rfl rfl (EnO.nil w2.heap.size za) ((show EnS za (.slice (some ⟨g, o, none⟩) L.length c) L from HXA.out).first hjl) (by rw [List.length_nil, List.length_take]; have := HL.out; omega) (by have := HZA.out; omega) ?_
            intro v1 z1 ho1 hs1 hb1
            have hs1' : Stay (fun _ => False) za z1 := hs1.mono (fun k hk => by cases hk)
            have HS1 := Lib.hid (HSA.out.trans hs1')
            have HSL := Lib.hid hs1'
            refine hK _ _ HS1.out ?_
            have HO1 := Lib.hid (show EnO w2.heap.size z1 v1 (L.take j) from ho1)
            clear ho1 hs1 hs1' hb1 hK
            conv => arg 8; simp [Act.put]
            refine wpAnyH_one #[true, true, true, true, true, true, true, true, false] (i := 7) rfl (by kernel_rfl) (by kernel_rfl) (fun K hK => ?_)
            refine step_append_en rfl (.tmp 30) (.tmp 32) 25 rfl Try.underlying25 rfl rfl HO1.out ((HBN.out.stay0 HSL.out).one 1 (by decide) (by decide)) (by rw [List.length_take, List.length_singleton]; have := HL.out; omega) (by exact HS1.out.size) ?_
            intro v2 z3 ho3 hs3 hb3
            have HS3 := Lib.hid (stay_seal (((HS1.out).mono (Y := fun k => v1.ownBlock = some k) (fun _ x => x.elim)).trans hs3) (fun k hk => ((HO1.out).lt k hk).1))
            have HO3 := Lib.hid ho3
            refine hK _ _ HS3.out ?_
            clear ho3 hs3 hb3 hK
            conv => arg 8; simp [Act.put]
            refine wpAnyH_takeL (i := 8) (v := v2) #[true, true, true, true, true, true, true, true, true] rfl (by kernel_rfl) (by kernel_rfl) (by kernel_rfl) (fun _ _ _ h => h) (by kernel_rfl) HS3.out (Or.inl ⟨by rfl, fun W hW => ?_⟩) ?_
            · go_simp
            conv => arg 8; simp [Act.put]
            refine wpAnyH_done (by kernel_rfl) ?_ _
            go_wp2
            have HTZ := Lib.hid (HTW.out.trans (Stay.drew.trans HS3.out))
            have HXZ := Lib.hid ((show EnS w2.drew _ L from HXW.out).stay0 HS3.out)
            have HBZ := Lib.hid ((show Box w2.drew w.heap.size (norm e) from HBW.out).stay0 HS3.out)
            have HSW := Lib.hid (HTW.out.size)
            have b0 := HBZ.out.c (j := 0) rfl
            rw [norm_k] at b0
            obtain ⟨g9, o9, e9, _, hc9⟩ := HXZ.out.at (by omega)
            cases e9
            obtain ⟨h0, _, _⟩ := hc9 _ q HQ.out
            clear hc9
            by_cases hk : q.k = e.k
            · have HPT := Lib.hid (show putL L e = (L.take j ++ [norm e]) ++ L.drop (j + 1) by unfold putL; rw [show hasB L e.k = true by unfold hasB; rw [HP.out, HQ.out]; simpa using hk, HP.out]; simp)
              rw [hk] at h0
              go_quiet (fail)
              have HS4 := Lib.hid (stay_drewN (X := fun _ => False) z3 nq)
              generalize z3.drewN nq = z4 at *
              have HO4 := Lib.hid (HO3.out.stay0 HS4.out)
              have HX4 := Lib.hid (HXZ.out.stay0 HS4.out)
              have HT4 := Lib.hid (HTZ.out.trans HS4.out)
              have HW4 := Lib.hid (show w2.heap.size ≤ z4.heap.size from Nat.le_trans (show w2.heap.size ≤ z3.heap.size from HS3.out.size) HS4.out.size)
              clear h0 b0
              by_cases hcm1 : c = j + 1
              · subst hcm1
                have HCUT := Lib.hid (show EnS z4 (.slice (some ⟨g, o, none⟩) 0 0) (L.drop (j + 1)) by rw [List.drop_eq_nil_of_le (by omega)]; exact EnS.empty _ _)
                go_wp2_with (at_builtin; refine wpList_append_en rfl (.tmp 50) (.tmp 53) 25 rfl Try.underlying25 rfl rfl HO4.out HCUT.out (by rw [List.length_append, List.length_take, List.length_singleton, List.length_drop]; have := HL.out; omega) HW4.out ?_; intro v5 w5 ho5 hs5 hb5; have HO5 := Lib.hid ho5; have HS5 := Lib.hid hs5; clear ho5 hs5 hb5)
                go_ret
                exact ⟨_, rfl, by rw [HPT.out]; exact HO5.out.rebase (fun k hk => by have h1 := (HO5.out.lt k hk).1; have h2 := HSW.out; omega), stay_seal ((HT4.out.mono (Y := fun k => v2.ownBlock = some k) (fun _ x => x.elim)).trans HS5.out) (fun k hk => by have h1 := (HO4.out.lt k hk).1; have h2 := HSW.out; omega)⟩
              · have HCUT := Lib.hid (HX4.out.cut_some (m := j + 1) (by omega) hcm1)
                go_wp2_with (at_builtin; refine wpList_append_en rfl (.tmp 50) (.tmp 53) 25 rfl Try.underlying25 rfl rfl HO4.out HCUT.out (by rw [List.length_append, List.length_take, List.length_singleton, List.length_drop]; have := HL.out; omega) HW4.out ?_; intro v5 w5 ho5 hs5 hb5; have HO5 := Lib.hid ho5; have HS5 := Lib.hid hs5; clear ho5 hs5 hb5)
                go_ret
                exact ⟨_, rfl, by rw [HPT.out]; exact HO5.out.rebase (fun k hk => by have h1 := (HO5.out.lt k hk).1; have h2 := HSW.out; omega), stay_seal ((HT4.out.mono (Y := fun k => v2.ownBlock = some k) (fun _ x => x.elim)).trans HS5.out) (fun k hk => by have h1 := (HO4.out.lt k hk).1; have h2 := HSW.out; omega)⟩
            · have HPT := Lib.hid (show putL L e = (L.take j ++ [norm e]) ++ L.drop j by unfold putL; rw [show hasB L e.k = false by unfold hasB; rw [HP.out, HQ.out]; simpa using hk, HP.out]; simp)
              have hkb : (q.k == e.k) = false := by simpa using hk
              go_quiet (fail)
              have HS4 := Lib.hid (stay_drewN (X := fun _ => False) z3 nq)
              generalize z3.drewN nq = z4 at *
              have HO4 := Lib.hid (HO3.out.stay0 HS4.out)
              have HX4 := Lib.hid (HXZ.out.stay0 HS4.out)
              have HT4 := Lib.hid (HTZ.out.trans HS4.out)
              have HW4 := Lib.hid (show w2.heap.size ≤ z4.heap.size from Nat.le_trans (show w2.heap.size ≤ z3.heap.size from HS3.out.size) HS4.out.size)
              clear h0 b0
              have hcj : ¬ c = j := by omega
              have HCUT := Lib.hid (HX4.out.cut_some (m := j) (by omega) hcj)
              go_wp2_with (at_builtin; refine wpList_append_en rfl (.tmp 50) (.tmp 53) 25 rfl Try.underlying25 rfl rfl HO4.out HCUT.out (by rw [List.length_append, List.length_take, List.length_singleton, List.length_drop]; have := HL.out; omega) HW4.out ?_; intro v5 w5 ho5 hs5 hb5; have HO5 := Lib.hid ho5; have HS5 := Lib.hid hs5; clear ho5 hs5 hb5)
              go_ret
              exact ⟨_, rfl, by rw [HPT.out]; exact HO5.out.rebase (fun k hk => by have h1 := (HO5.out.lt k hk).1; have h2 := HSW.out; omega), stay_seal ((HT4.out.mono (Y := fun k => v2.ownBlock = some k) (fun _ x => x.elim)).trans HS5.out) (fun k hk => by have h1 := (HO4.out.lt k hk).1; have h2 := HSW.out; omega)⟩
          exact AllReadyH.nil
      · obtain rfl : j = L.length := by omega
        have HP := Lib.hid (show posN L e.k = L.length by omega)
        clear hj hple
        cases a0 with
        | none =>
          obtain rfl := HNIL.out rfl
          have hL0 : L.length = 0 := by omega
          have hLn : L = [] := List.eq_nil_of_length_eq_zero hL0
          have hjl : 0 ≤ L.length := Nat.zero_le _
          rw [hL0] at HP ⊢
          go_wp2
          go_quiet (fail)
          have HS2 := Lib.hid (stay_drewN (X := fun _ => False) wr nq)
          generalize wr.drewN nq = w2 at *
          clear b0
          have HXW := Lib.hid (HXR.out.stay0 HS2.out)
          have HBW := Lib.hid (HBR.out.stay0 HS2.out)
          have HTW := Lib.hid (HST.out.trans (HT.out.trans HS2.out))
          have HLW := Lib.hid (show w.heap.size + 1 ≤ w2.heap.size by have h1 := (HT.out.trans HS2.out).size; have h2 := HSZ.out; omega)
          clear HXR HBR HS2
          go_wp2
          refine wp_region_held (S := Stay (fun _ => False) w2.drew) (by kernel_rfl) ?_
          change wpAnyH _ _ _ _ _ _ _ _ (World.drew _)
          refine wpAnyH_takeL (i := 0) (v := .slice none 0 0) #[true, false, false, false, false, false, false, false, false] rfl (by kernel_rfl) (by kernel_rfl) (by kernel_rfl) (fun _ _ _ h => h) (by kernel_rfl) (Stay.refl _ _) (Or.inl ⟨by rfl, fun W hW => ?_⟩) ?_
          · go_simp
          conv => arg 8; simp [Act.put]
          refine wpAnyH_takeL (i := 1) (v := .slice none 0 0) #[true, true, false, false, false, false, false, false, false] rfl (by kernel_rfl) (by kernel_rfl) (by kernel_rfl) (fun _ _ _ h => h) (by kernel_rfl) (Stay.refl _ _) (Or.inl ⟨by rfl, fun W hW => ?_⟩) ?_
          · go_simp
          conv => arg 8; simp [Act.put]
          refine wpAnyH_takeL (i := 2) (v := .int .i64 0) #[true, true, true, false, false, false, false, false, false] rfl (by kernel_rfl) (by kernel_rfl) (by kernel_rfl) (fun _ _ _ h => h) (by kernel_rfl) (Stay.refl _ _) (Or.inl ⟨by rfl, fun W hW => ?_⟩) ?_
          · go_simp
          conv => arg 8; simp [Act.put]
          refine wpAnyH_takeL (i := 3) (v := .slice none 0 0) #[true, true, true, true, false, false, false, false, false] rfl (by kernel_rfl) (by kernel_rfl) (by kernel_rfl) (fun _ _ _ h => h) (by kernel_rfl) (Stay.refl _ _) (Or.inl ⟨by rfl, fun W hW => ?_⟩) ?_
          · (go_simp; try (intro hcj; exfalso; omega))
          conv => arg 8; simp [Act.put]
          refine wpAnyH_takeL (i := 5) #[true, true, true, true, false, true, false, false, false] rfl (by kernel_rfl) (by kernel_rfl) (by kernel_rfl) (fun _ _ _ h => h) (by kernel_rfl) (Stay.refl _ _) (yieldsIf_load rfl 28 (.tmp 3) rfl ⟨w.heap.size, 0, none⟩ rfl _ (fun W hW => ((show Box w2.drew w.heap.size (norm e) from HBW.out).stay0 hW).run_load)) ?_
          conv => arg 8; simp [Act.put]
          refine wpAnyH_ready (rs := [4, 6]) (by kernel_rfl) (by simp) ?_
          refine AllReadyH.cons (o := _) rfl (fun K hK => ?_) ?_
          · refine step_append_en rfl (.tmp 26) (.tmp 29) 25 rfl Try.underlying25 rfl rfl (EnO.nil w2.heap.size w2.drew) ((show EnS w2.drew (.slice none L.length 0) L from HXW.out).first hjl) (by rw [List.length_nil, List.length_take]; have := HL.out; omega) (by exact Nat.le_refl _) ?_
            intro v1 z1 ho1 hs1 hb1
            have hs1' : Stay (fun _ => False) w2.drew z1 := hs1.mono (fun k hk => by cases hk)
            have HS1 := Lib.hid hs1'
            refine Shut.out hK _ _ HS1.out (fun _ => ?_)
            have HO1 := Lib.hid (show EnO w2.heap.size z1 v1 (L.take 0) from ho1)
            clear ho1 hs1 hs1' hb1 hK
            refine wpAnyH_listedL #[true, true, true, true, true, true, false, false, false] (by kernel_rfl) ?_
            conv => arg 8; simp [Act.put]
            refine wpAnyH_one #[true, true, true, true, true, true, true, false, false] (i := 6) rfl (by kernel_rfl) (by kernel_rfl) (fun K hK => ?_)
            refine step_one_en rfl (.tmp 31) rfl (norm e) rfl ?_
            have hbn := Box.new z1 (norm e)
            have hsn : Stay (fun _ => False) z1 (z1.alloc (.cells (enC (norm e)).toArray 28)) := Stay.alloc _ _
            obtain ⟨za, hza⟩ : ∃ za, z1.alloc (.cells (enC (norm e)).toArray 28) = za := ⟨_, rfl⟩
            rw [hza] at hbn hsn ⊢
            have HSA := Lib.hid (HS1.out.trans hsn)
            have HO2 := Lib.hid (HO1.out.stay0 hsn)
            refine hK _ _ HSA.out ?_
            have HBN := Lib.hid hbn
            clear hbn hsn hza hK
            conv => arg 8; simp [Act.put]
            refine wpAnyH_one #[true, true, true, true, true, true, true, true, false] (i := 7) rfl (by kernel_rfl) (by kernel_rfl) (fun K hK => ?_)
            refine step_append_en rfl (.tmp 30) (.tmp 32) 25 rfl Try.underlying25 rfl rfl HO2.out (HBN.out.one 1 (by decide) (by decide)) (by rw [List.length_take, List.length_singleton]; have := HL.out; omega) (by exact HSA.out.size) ?_
            intro v2 z3 ho3 hs3 hb3
            have HS3 := Lib.hid (stay_seal (((HSA.out).mono (Y := fun k => v1.ownBlock = some k) (fun _ x => x.elim)).trans hs3) (fun k hk => ((HO2.out).lt k hk).1))
            have HO3 := Lib.hid ho3
            refine hK _ _ HS3.out ?_
            clear ho3 hs3 hb3 hK
            conv => arg 8; simp [Act.put]
            refine wpAnyH_takeL (i := 8) (v := v2) #[true, true, true, true, true, true, true, true, true] rfl (by kernel_rfl) (by kernel_rfl) (by kernel_rfl) (fun _ _ _ h => h) (by kernel_rfl) HS3.out (Or.inl ⟨by rfl, fun W hW => ?_⟩) ?_
            · go_simp
            conv => arg 8; simp [Act.put]
            refine wpAnyH_done (by kernel_rfl) ?_ _
            go_wp2
            have HTZ := Lib.hid (HTW.out.trans (Stay.drew.trans HS3.out))
            have HXZ := Lib.hid ((show EnS w2.drew _ L from HXW.out).stay0 HS3.out)
            have HBZ := Lib.hid ((show Box w2.drew w.heap.size (norm e) from HBW.out).stay0 HS3.out)
            have HSW := Lib.hid (HTW.out.size)
            have b0 := HBZ.out.c (j := 0) rfl
            rw [norm_k] at b0
            have HPT := Lib.hid (show putL L e = (L.take 0 ++ [norm e]) ++ [] by unfold putL; rw [show hasB L e.k = false by unfold hasB; rw [HP.out, List.getElem?_eq_none (by omega)], HP.out]; simp [hLn])
            go_quiet (fail)
            have HS4 := Lib.hid (stay_drewN (X := fun _ => False) z3 nq)
            generalize z3.drewN nq = z4 at *
            have HO4 := Lib.hid (HO3.out.stay0 HS4.out)
            have HT4 := Lib.hid (HTZ.out.trans HS4.out)
            have HW4 := Lib.hid (show w2.heap.size ≤ z4.heap.size from Nat.le_trans (show w2.heap.size ≤ z3.heap.size from HS3.out.size) HS4.out.size)
            clear b0
            have HCUT := Lib.hid (EnS.nil z4)
            go_wp2_with (at_builtin; refine wpList_append_en rfl (.tmp 50) (.tmp 53) 25 rfl Try.underlying25 rfl rfl HO4.out HCUT.out (by rw [List.length_append, List.length_take, List.length_singleton, List.length_nil]; have := HL.out; omega) HW4.out ?_; intro v5 w5 ho5 hs5 hb5; have HO5 := Lib.hid ho5; have HS5 := Lib.hid hs5; clear ho5 hs5 hb5)
            go_ret
            exact ⟨_, rfl, by rw [HPT.out]; exact HO5.out.rebase (fun k hk => by have h1 := (HO5.out.lt k hk).1; have h2 := HSW.out; omega), stay_seal ((HT4.out.mono (Y := fun k => v2.ownBlock = some k) (fun _ x => x.elim)).trans HS5.out) (fun k hk => by have h1 := (HO4.out.lt k hk).1; have h2 := HSW.out; omega)⟩
          refine AllReadyH.cons (o := _) rfl (fun K hK => ?_) ?_
          · refine step_one_en rfl (.tmp 31) rfl (norm e) rfl ?_
            have hbn := Box.new w2.drew (norm e)
            have hsn : Stay (fun _ => False) w2.drew (w2.drew.alloc (.cells (enC (norm e)).toArray 28)) := Stay.alloc _ _
            obtain ⟨za, hza⟩ : ∃ za, w2.drew.alloc (.cells (enC (norm e)).toArray 28) = za := ⟨_, rfl⟩
            rw [hza] at hbn hsn ⊢
            have HSA := Lib.hid hsn
            refine Shut.out hK _ _ HSA.out (fun _ => ?_)
            have HXA := Lib.hid ((show EnS w2.drew _ L from HXW.out).stay0 hsn)
            have HZA := Lib.hid (show w2.heap.size ≤ za.heap.size from hsn.size)
            have HBN := Lib.hid hbn
            clear hbn hsn hza hK
            refine wpAnyH_listedL #[true, true, true, true, false, true, true, false, false] (by kernel_rfl) ?_
            conv => arg 8; simp [Act.put]
            refine wpAnyH_one #[true, true, true, true, true, true, true, false, false] (i := 4) rfl (by kernel_rfl) (by kernel_rfl) (fun K hK => ?_)
            refine step_append_en rfl (.tmp 26) (.tmp 29) 25 rfl Try.underlying25 rfl rfl (EnO.nil w2.heap.size za) ((show EnS za (.slice none L.length 0) L from HXA.out).first hjl) (by rw [List.length_nil, List.length_take]; have := HL.out; omega) (by have := HZA.out; omega) ?_
            intro v1 z1 ho1 hs1 hb1
            have hs1' : Stay (fun _ => False) za z1 := hs1.mono (fun k hk => by cases hk)
            have HS1 := Lib.hid (HSA.out.trans hs1')
            have HSL := Lib.hid hs1'
            refine hK _ _ HS1.out ?_
            have HO1 := Lib.hid (show EnO w2.heap.size z1 v1 (L.take 0) from ho1)
            clear ho1 hs1 hs1' hb1 hK
            conv => arg 8; simp [Act.put]
            refine wpAnyH_one #[true, true, true, true, true, true, true, true, false] (i := 7) rfl (by kernel_rfl) (by kernel_rfl) (fun K hK => ?_)
            refine step_append_en rfl (.tmp 30) (.tmp 32) 25 rfl Try.underlying25 rfl rfl HO1.out ((HBN.out.stay0 HSL.out).one 1 (by decide) (by decide)) (by rw [List.length_take, List.length_singleton]; have := HL.out; omega) (by exact HS1.out.size) ?_
            intro v2 z3 ho3 hs3 hb3
            have HS3 := Lib.hid (stay_seal (((HS1.out).mono (Y := fun k => v1.ownBlock = some k) (fun _ x => x.elim)).trans hs3) (fun k hk => ((HO1.out).lt k hk).1))
            have HO3 := Lib.hid ho3
            refine hK _ _ HS3.out ?_
            clear ho3 hs3 hb3 hK
            conv => arg 8; simp [Act.put]
            refine wpAnyH_takeL (i := 8) (v := v2) #[true, true, true, true, true, true, true, true, true] rfl (by kernel_rfl) (by kernel_rfl) (by kernel_rfl) (fun _ _ _ h => h) (by kernel_rfl) HS3.out (Or.inl ⟨by rfl, fun W hW => ?_⟩) ?_
            · go_simp
            conv => arg 8; simp [Act.put]
            refine wpAnyH_done (by kernel_rfl) ?_ _
            go_wp2
            have HTZ := Lib.hid (HTW.out.trans (Stay.drew.trans HS3.out))
            have HXZ := Lib.hid ((show EnS w2.drew _ L from HXW.out).stay0 HS3.out)
            have HBZ := Lib.hid ((show Box w2.drew w.heap.size (norm e) from HBW.out).stay0 HS3.out)
            have HSW := Lib.hid (HTW.out.size)
            have b0 := HBZ.out.c (j := 0) rfl
            rw [norm_k] at b0
            have HPT := Lib.hid (show putL L e = (L.take 0 ++ [norm e]) ++ [] by unfold putL; rw [show hasB L e.k = false by unfold hasB; rw [HP.out, List.getElem?_eq_none (by omega)], HP.out]; simp [hLn])
            go_quiet (fail)
            have HS4 := Lib.hid (stay_drewN (X := fun _ => False) z3 nq)
            generalize z3.drewN nq = z4 at *
            have HO4 := Lib.hid (HO3.out.stay0 HS4.out)
            have HT4 := Lib.hid (HTZ.out.trans HS4.out)
            have HW4 := Lib.hid (show w2.heap.size ≤ z4.heap.size from Nat.le_trans (show w2.heap.size ≤ z3.heap.size from HS3.out.size) HS4.out.size)
            clear b0
            have HCUT := Lib.hid (EnS.nil z4)
            go_wp2_with (at_builtin; refine wpList_append_en rfl (.tmp 50) (.tmp 53) 25 rfl Try.underlying25 rfl rfl HO4.out HCUT.out (by rw [List.length_append, List.length_take, List.length_singleton, List.length_nil]; have := HL.out; omega) HW4.out ?_; intro v5 w5 ho5 hs5 hb5; have HO5 := Lib.hid ho5; have HS5 := Lib.hid hs5; clear ho5 hs5 hb5)
            go_ret
            exact ⟨_, rfl, by rw [HPT.out]; exact HO5.out.rebase (fun k hk => by have h1 := (HO5.out.lt k hk).1; have h2 := HSW.out; omega), stay_seal ((HT4.out.mono (Y := fun k => v2.ownBlock = some k) (fun _ x => x.elim)).trans HS5.out) (fun k hk => by have h1 := (HO4.out.lt k hk).1; have h2 := HSW.out; omega)⟩
          exact AllReadyH.nil
        | some ad =>
          have hjl : L.length ≤ L.length := Nat.le_refl _
          go_wp2
          go_quiet (fail)
          have HS2 := Lib.hid (stay_drewN (X := fun _ => False) wr nq)
          generalize wr.drewN nq = w2 at *
          clear b0
          have HXW := Lib.hid (HXR.out.stay0 HS2.out)
          have HBW := Lib.hid (HBR.out.stay0 HS2.out)
          have HTW := Lib.hid (HST.out.trans (HT.out.trans HS2.out))
          have HLW := Lib.hid (show w.heap.size + 1 ≤ w2.heap.size by have h1 := (HT.out.trans HS2.out).size; have h2 := HSZ.out; omega)
          clear HXR HBR HS2
          go_wp2
          refine wp_region_held (S := Stay (fun _ => False) w2.drew) (by kernel_rfl) ?_
          change wpAnyH _ _ _ _ _ _ _ _ (World.drew _)
          refine wpAnyH_takeL (i := 0) (v := .slice none 0 0) #[true, false, false, false, false, false, false, false, false] rfl (by kernel_rfl) (by kernel_rfl) (by kernel_rfl) (fun _ _ _ h => h) (by kernel_rfl) (Stay.refl _ _) (Or.inl ⟨by rfl, fun W hW => ?_⟩) ?_
          · go_simp
          conv => arg 8; simp [Act.put]
          refine wpAnyH_takeL (i := 1) (v := .slice (some ad) L.length c) #[true, true, false, false, false, false, false, false, false] rfl (by kernel_rfl) (by kernel_rfl) (by kernel_rfl) (fun _ _ _ h => h) (by kernel_rfl) (Stay.refl _ _) (Or.inl ⟨by rfl, fun W hW => ?_⟩) ?_
          · go_simp
          conv => arg 8; simp [Act.put]
          refine wpAnyH_takeL (i := 2) (v := .int .i64 (L.length : Int)) #[true, true, true, false, false, false, false, false, false] rfl (by kernel_rfl) (by kernel_rfl) (by kernel_rfl) (fun _ _ _ h => h) (by kernel_rfl) (Stay.refl _ _) (Or.inl ⟨by rfl, fun W hW => ?_⟩) ?_
          · go_simp
          conv => arg 8; simp [Act.put]
          refine wpAnyH_takeL (i := 3) (v := .slice (some ad) L.length c) #[true, true, true, true, false, false, false, false, false] rfl (by kernel_rfl) (by kernel_rfl) (by kernel_rfl) (fun _ _ _ h => h) (by kernel_rfl) (Stay.refl _ _) (Or.inl ⟨by rfl, fun W hW => ?_⟩) ?_
          · (go_simp; try (intro hcj; exfalso; omega))
          conv => arg 8; simp [Act.put]
          refine wpAnyH_takeL (i := 5) #[true, true, true, true, false, true, false, false, false] rfl (by kernel_rfl) (by kernel_rfl) (by kernel_rfl) (fun _ _ _ h => h) (by kernel_rfl) (Stay.refl _ _) (yieldsIf_load rfl 28 (.tmp 3) rfl ⟨w.heap.size, 0, none⟩ rfl _ (fun W hW => ((show Box w2.drew w.heap.size (norm e) from HBW.out).stay0 hW).run_load)) ?_
          conv => arg 8; simp [Act.put]
          refine wpAnyH_ready (rs := [4, 6]) (by kernel_rfl) (by simp) ?_
          refine AllReadyH.cons (o := _) rfl (fun K hK => ?_) ?_
          · refine step_append_en rfl (.tmp 26) (.tmp 29) 25 rfl Try.underlying25 rfl rfl (EnO.nil w2.heap.size w2.drew) ((show EnS w2.drew (.slice (some ad) L.length c) L from HXW.out).first hjl) (by rw [List.length_nil, List.length_take]; have := HL.out; omega) (by exact Nat.le_refl _) ?_
            intro v1 z1 ho1 hs1 hb1
            have hs1' : Stay (fun _ => False) w2.drew z1 := hs1.mono (fun k hk => by cases hk)
            have HS1 := Lib.hid hs1'
            refine Shut.out hK _ _ HS1.out (fun _ => ?_)
            have HO1 := Lib.hid (show EnO w2.heap.size z1 v1 (L.take L.length) from ho1)
            clear ho1 hs1 hs1' hb1 hK
            refine wpAnyH_listedL #[true, true, true, true, true, true, false, false, false] (by kernel_rfl) ?_
            conv => arg 8; simp [Act.put]
            refine wpAnyH_one #[true, true, true, true, true, true, true, false, false] (i := 6) rfl (by kernel_rfl) (by kernel_rfl) (fun K hK => ?_)
            refine step_one_en rfl (.tmp 31) rfl (norm e) rfl ?_
            have hbn := Box.new z1 (norm e)
            have hsn : Stay (fun _ => False) z1 (z1.alloc (.cells (enC (norm e)).toArray 28)) := Stay.alloc _ _
            obtain ⟨za, hza⟩ : ∃ za, z1.alloc (.cells (enC (norm e)).toArray 28) = za := ⟨_, rfl⟩
            rw [hza] at hbn hsn ⊢
            have HSA := Lib.hid (HS1.out.trans hsn)
            have HO2 := Lib.hid (HO1.out.stay0 hsn)
            refine hK _ _ HSA.out ?_
            have HBN := Lib.hid hbn
            clear hbn hsn hza hK
            conv => arg 8; simp [Act.put]
            refine wpAnyH_one #[true, true, true, true, true, true, true, true, false] (i := 7) rfl (by kernel_rfl) (by kernel_rfl) (fun K hK => ?_)
            refine step_append_en rfl (.tmp 30) (.tmp 32) 25 rfl Try.underlying25 rfl rfl HO2.out (HBN.out.one 1 (by decide) (by decide)) (by rw [List.length_take, List.length_singleton]; have := HL.out; omega) (by exact HSA.out.size) ?_
            intro v2 z3 ho3 hs3 hb3
            have HS3 := Lib.hid (stay_seal (((HSA.out).mono (Y := fun k => v1.ownBlock = some k) (fun _ x => x.elim)).trans hs3) (fun k hk => ((HO2.out).lt k hk).1))
            have HO3 := Lib.hid ho3
            refine hK _ _ HS3.out ?_
            clear ho3 hs3 hb3 hK
            conv => arg 8; simp [Act.put]
            refine wpAnyH_takeL (i := 8) (v := v2) #[true, true, true, true, true, true, true, true, true] rfl (by kernel_rfl) (by kernel_rfl) (by kernel_rfl) (fun _ _ _ h => h) (by kernel_rfl) HS3.out (Or.inl ⟨by rfl, fun W hW => ?_⟩) ?_
            · go_simp
            conv => arg 8; simp [Act.put]
            refine wpAnyH_done (by kernel_rfl) ?_ _
            go_wp2
            have HTZ := Lib.hid (HTW.out.trans (Stay.drew.trans HS3.out))
            have HXZ := Lib.hid ((show EnS w2.drew _ L from HXW.out).stay0 HS3.out)
            have HBZ := Lib.hid ((show Box w2.drew w.heap.size (norm e) from HBW.out).stay0 HS3.out)
            have HSW := Lib.hid (HTW.out.size)
            have b0 := HBZ.out.c (j := 0) rfl
            rw [norm_k] at b0
            have HPT := Lib.hid (show putL L e = (L.take L.length ++ [norm e]) ++ [] by unfold putL; rw [show hasB L e.k = false by unfold hasB; rw [HP.out, List.getElem?_eq_none (by omega)], HP.out]; simp)
            go_quiet (fail)
            have HS4 := Lib.hid (stay_drewN (X := fun _ => False) z3 nq)
            generalize z3.drewN nq = z4 at *
            have HO4 := Lib.hid (HO3.out.stay0 HS4.out)
            have HT4 := Lib.hid (HTZ.out.trans HS4.out)
            have HW4 := Lib.hid (show w2.heap.size ≤ z4.heap.size from Nat.le_trans (show w2.heap.size ≤ z3.heap.size from HS3.out.size) HS4.out.size)
            clear b0
            by_cases hcm1 : c = L.length
            · subst hcm1
              have HCUT := Lib.hid (EnS.empty z4 ad)
              go_wp2_with (at_builtin; refine wpList_append_en rfl (.tmp 50) (.tmp 53) 25 rfl Try.underlying25 rfl rfl HO4.out HCUT.out (by rw [List.length_append, List.length_take, List.length_singleton, List.length_nil]; have := HL.out; omega) HW4.out ?_; intro v5 w5 ho5 hs5 hb5; have HO5 := Lib.hid ho5; have HS5 := Lib.hid hs5; clear ho5 hs5 hb5)
              go_ret
              exact ⟨_, rfl, by rw [HPT.out]; exact HO5.out.rebase (fun k hk => by have h1 := (HO5.out.lt k hk).1; have h2 := HSW.out; omega), stay_seal ((HT4.out.mono (Y := fun k => v2.ownBlock = some k) (fun _ x => x.elim)).trans HS5.out) (fun k hk => by have h1 := (HO4.out.lt k hk).1; have h2 := HSW.out; omega)⟩
            · have HCUT := Lib.hid (show EnS z4 (.slice (some (ad.add (L.length * 3))) 0 (c - L.length)) [] from ⟨_, _, rfl, Nat.zero_le _, by omega, (fun h => by cases h), fun h => absurd h (Nat.lt_irrefl 0)⟩)
              go_wp2_with (at_builtin; refine wpList_append_en rfl (.tmp 50) (.tmp 53) 25 rfl Try.underlying25 rfl rfl HO4.out HCUT.out (by rw [List.length_append, List.length_take, List.length_singleton, List.length_nil]; have := HL.out; omega) HW4.out ?_; intro v5 w5 ho5 hs5 hb5; have HO5 := Lib.hid ho5; have HS5 := Lib.hid hs5; clear ho5 hs5 hb5)
              go_ret
              exact ⟨_, rfl, by rw [HPT.out]; exact HO5.out.rebase (fun k hk => by have h1 := (HO5.out.lt k hk).1; have h2 := HSW.out; omega), stay_seal ((HT4.out.mono (Y := fun k => v2.ownBlock = some k) (fun _ x => x.elim)).trans HS5.out) (fun k hk => by have h1 := (HO4.out.lt k hk).1; have h2 := HSW.out; omega)⟩
          refine AllReadyH.cons (o := _) rfl (fun K hK => ?_) ?_
          · refine step_one_en rfl (.tmp 31) rfl (norm e) rfl ?_
            have hbn := Box.new w2.drew (norm e)
            have hsn : Stay (fun _ => False) w2.drew (w2.drew.alloc (.cells (enC (norm e)).toArray 28)) := Stay.alloc _ _
            obtain ⟨za, hza⟩ : ∃ za, w2.drew.alloc (.cells (enC (norm e)).toArray 28) = za := ⟨_, rfl⟩
            rw [hza] at hbn hsn ⊢
            have HSA := Lib.hid hsn
            refine Shut.out hK _ _ HSA.out (fun _ => ?_)
            have HXA := Lib.hid ((show EnS w2.drew _ L from HXW.out).stay0 hsn)
            have HZA := Lib.hid (show w2.heap.size ≤ za.heap.size from hsn.size)
            have HBN := Lib.hid hbn
            clear hbn hsn hza hK
            refine wpAnyH_listedL #[true, true, true, true, false, true, true, false, false] (by kernel_rfl) ?_
            conv => arg 8; simp [Act.put]
            refine wpAnyH_one #[true, true, true, true, true, true, true, false, false] (i := 4) rfl (by kernel_rfl) (by kernel_rfl) (fun K hK => ?_)
            refine step_append_en rfl (.tmp 26) (.tmp 29) 25 rfl Try.underlying25 rfl rfl (EnO.nil w2.heap.size za) ((show EnS za (.slice (some ad) L.length c) L from HXA.out).first hjl) (by rw [List.length_nil, List.length_take]; have := HL.out; omega) (by have := HZA.out; omega) ?_
            intro v1 z1 ho1 hs1 hb1
            have hs1' : Stay (fun _ => False) za z1 := hs1.mono (fun k hk => by cases hk)
            have HS1 := Lib.hid (HSA.out.trans hs1')
            have HSL := Lib.hid hs1'
            refine hK _ _ HS1.out ?_
            have HO1 := Lib.hid (show EnO w2.heap.size z1 v1 (L.take L.length) from ho1)
            clear ho1 hs1 hs1' hb1 hK
            conv => arg 8; simp [Act.put]
            refine wpAnyH_one #[true, true, true, true, true, true, true, true, false] (i := 7) rfl (by kernel_rfl) (by kernel_rfl) (fun K hK => ?_)
            refine step_append_en rfl (.tmp 30) (.tmp 32) 25 rfl Try.underlying25 rfl rfl HO1.out ((HBN.out.stay0 HSL.out).one 1 (by decide) (by decide)) (by rw [List.length_take, List.length_singleton]; have := HL.out; omega) (by exact HS1.out.size) ?_
            intro v2 z3 ho3 hs3 hb3
            have HS3 := Lib.hid (stay_seal (((HS1.out).mono (Y := fun k => v1.ownBlock = some k) (fun _ x => x.elim)).trans hs3) (fun k hk => ((HO1.out).lt k hk).1))
            have HO3 := Lib.hid ho3
            refine hK _ _ HS3.out ?_
            clear ho3 hs3 hb3 hK
            conv => arg 8; simp [Act.put]
            refine wpAnyH_takeL (i := 8) (v := v2) #[true, true, true, true, true, true, true, true, true] rfl (by kernel_rfl) (by kernel_rfl) (by kernel_rfl) (fun _ _ _ h => h) (by kernel_rfl) HS3.out (Or.inl ⟨by rfl, fun W hW => ?_⟩) ?_
            · go_simp
            conv => arg 8; simp [Act.put]
            refine wpAnyH_done (by kernel_rfl) ?_ _
            go_wp2
            have HTZ := Lib.hid (HTW.out.trans (Stay.drew.trans HS3.out))
            have HXZ := Lib.hid ((show EnS w2.drew _ L from HXW.out).stay0 HS3.out)
            have HBZ := Lib.hid ((show Box w2.drew w.heap.size (norm e) from HBW.out).stay0 HS3.out)
            have HSW := Lib.hid (HTW.out.size)
            have b0 := HBZ.out.c (j := 0) rfl
            rw [norm_k] at b0
            have HPT := Lib.hid (show putL L e = (L.take L.length ++ [norm e]) ++ [] by unfold putL; rw [show hasB L e.k = false by unfold hasB; rw [HP.out, List.getElem?_eq_none (by omega)], HP.out]; simp)
            go_quiet (fail)
            have HS4 := Lib.hid (stay_drewN (X := fun _ => False) z3 nq)
            generalize z3.drewN nq = z4 at *
            have HO4 := Lib.hid (HO3.out.stay0 HS4.out)
            have HT4 := Lib.hid (HTZ.out.trans HS4.out)
            have HW4 := Lib.hid (show w2.heap.size ≤ z4.heap.size from Nat.le_trans (show w2.heap.size ≤ z3.heap.size from HS3.out.size) HS4.out.size)
            clear b0
            by_cases hcm1 : c = L.length
            · subst hcm1
              have HCUT := Lib.hid (EnS.empty z4 ad)
              go_wp2_with (at_builtin; refine wpList_append_en rfl (.tmp 50) (.tmp 53) 25 rfl Try.underlying25 rfl rfl HO4.out HCUT.out (by rw [List.length_append, List.length_take, List.length_singleton, List.length_nil]; have := HL.out; omega) HW4.out ?_; intro v5 w5 ho5 hs5 hb5; have HO5 := Lib.hid ho5; have HS5 := Lib.hid hs5; clear ho5 hs5 hb5)
              go_ret
              exact ⟨_, rfl, by rw [HPT.out]; exact HO5.out.rebase (fun k hk => by have h1 := (HO5.out.lt k hk).1; have h2 := HSW.out; omega), stay_seal ((HT4.out.mono (Y := fun k => v2.ownBlock = some k) (fun _ x => x.elim)).trans HS5.out) (fun k hk => by have h1 := (HO4.out.lt k hk).1; have h2 := HSW.out; omega)⟩
            · have HCUT := Lib.hid (show EnS z4 (.slice (some (ad.add (L.length * 3))) 0 (c - L.length)) [] from ⟨_, _, rfl, Nat.zero_le _, by omega, (fun h => by cases h), fun h => absurd h (Nat.lt_irrefl 0)⟩)
              go_wp2_with (at_builtin; refine wpList_append_en rfl (.tmp 50) (.tmp 53) 25 rfl Try.underlying25 rfl rfl HO4.out HCUT.out (by rw [List.length_append, List.length_take, List.length_singleton, List.length_nil]; have := HL.out; omega) HW4.out ?_; intro v5 w5 ho5 hs5 hb5; have HO5 := Lib.hid ho5; have HS5 := Lib.hid hs5; clear ho5 hs5 hb5)
              go_ret
              exact ⟨_, rfl, by rw [HPT.out]; exact HO5.out.rebase (fun k hk => by have h1 := (HO5.out.lt k hk).1; have h2 := HSW.out; omega), stay_seal ((HT4.out.mono (Y := fun k => v2.ownBlock = some k) (fun _ x => x.elim)).trans HS5.out) (fun k hk => by have h1 := (HO4.out.lt k hk).1; have h2 := HSW.out; omega)⟩
          exact AllReadyH.nil
  | true =>
    have hbx : Box (w0.setCell ⟨w.heap.size, 1, none⟩ (.string ⟨#[]⟩)) w.heap.size (norm e) := by
      have h1 := heap_setCell_same w0 w.heap.size 1 _ _ (.string ⟨#[]⟩) HB0.out
      unfold Box norm
      rw [if_pos hg]
      unfold enC at h1 ⊢
      rw [hg] at h1
      exact h1
    have hst : Stay (fun _ => False) w (w0.setCell ⟨w.heap.size, 1, none⟩ (.string ⟨#[]⟩)) :=
      stay_seal (X := fun k => k = w.heap.size) ((HS0.out.mono (fun _ x => x.elim)).trans (Stay.setCell _ _ _ rfl)) (fun k hk => by have hk' : k = w.heap.size := hk; omega)
    have hsz : (w0.setCell ⟨w.heap.size, 1, none⟩ (.string ⟨#[]⟩)).heap.size = w.heap.size + 1 := by simp [HZ0.out]
    rw [hg] at c2 W0
    go_wp2_with (rw [W0.out])
    obtain ⟨wb, hwb⟩ : ∃ wb, w0.setCell ⟨w.heap.size, 1, none⟩ (.string ⟨#[]⟩) = wb := ⟨_, rfl⟩
    rw [hwb] at hbx hst hsz ⊢
    clear hwb
    have HBX := Lib.hid hbx
    have HST := Lib.hid hst
    have HSZ := Lib.hid hsz
    have HX := Lib.hid (HX0.out.stay0 hst)
    clear hbx hst hsz c0 c1 c2 f1 W0 HS0 HB0
    go_loopw [6] (fun i wr => ∃ j : Nat, i = .int .i64 (j : Int) ∧ j ≤ posN L e.k ∧ Stay (fun _ => False) wb wr) (fun i _ => L.length - (intOf i).toNat)
    case atStart => exact ⟨0, rfl, Nat.zero_le _, Stay.refl _ _⟩
    case round =>
      obtain ⟨j, rfl, hj, hst⟩ := hrel
      have hple := posN_le e.k L
      have HT := Lib.hid hst
      have HBR := Lib.hid (HBX.out.stay0 hst)
      have HXR := Lib.hid (HX.out.stay0 hst)
      clear hst
      have b0 := HBR.out.c (j := 0) rfl
      rw [norm_k] at b0
      by_cases hlt : j < L.length
      · obtain ⟨q, hq⟩ : ∃ q, L[j]? = some q := ⟨_, List.getElem?_eq_getElem hlt⟩
        obtain ⟨g, o, rfl, _, hc⟩ := HXR.out.at (by omega)
        obtain ⟨h0, h1, h2⟩ := hc _ q hq
        have hle := less_eq q.k e.k
        clear hc h1 h2
        have HQ := Lib.hid hq
        clear hq
        cases hlk : ltB q.k e.k with
        | true =>
          have HN := Lib.hid (posN_next hj HQ.out hlk)
          rw [hlk] at hle
          go_wp2
          go_quiet (fail)
          have HT2 := Lib.hid (HT.out.trans (stay_drewN (X := fun _ => False) wr nq))
          clear b0 h0
          go_wp2
          refine ⟨⟨j + 1, by go_num, HN.out, HT2.out⟩, by simp [intOf]; omega⟩
        | false =>
          have HP := Lib.hid (posN_stop hj HQ.out hlk)
          rw [hlk] at hle
          have hjl : j ≤ L.length := by omega
          go_wp2
          go_quiet (fail)
          have HS2 := Lib.hid (stay_drewN (X := fun _ => False) wr nq)
          generalize wr.drewN nq = w2 at *
          clear b0 h0 hle hj hple
          have HXW := Lib.hid (HXR.out.stay0 HS2.out)
          have HBW := Lib.hid (HBR.out.stay0 HS2.out)
          have HTW := Lib.hid (HST.out.trans (HT.out.trans HS2.out))
          have HLW := Lib.hid (show w.heap.size + 1 ≤ w2.heap.size by have h1 := (HT.out.trans HS2.out).size; have h2 := HSZ.out; omega)
          clear HXR HBR HS2
          go_wp2
          refine wp_region_held (S := Stay (fun _ => False) w2.drew) (by kernel_rfl) ?_
          change wpAnyH _ _ _ _ _ _ _ _ (World.drew _)
          refine wpAnyH_takeL (i := 0) (v := .slice none 0 0) #[true, false, false, false, false, false, false, false, false] rfl (by kernel_rfl) (by kernel_rfl) (by kernel_rfl) (fun _ _ _ h => h) (by kernel_rfl) (Stay.refl _ _) (Or.inl ⟨by rfl, fun W hW => ?_⟩) ?_
          · go_simp
          conv => arg 8; simp [Act.put]
          refine wpAnyH_takeL (i := 1) (v := .slice (some ⟨g, o, none⟩) L.length c) #[true, true, false, false, false, false, false, false, false] rfl (by kernel_rfl) (by kernel_rfl) (by kernel_rfl) (fun _ _ _ h => h) (by kernel_rfl) (Stay.refl _ _) (Or.inl ⟨by rfl, fun W hW => ?_⟩) ?_
          · go_simp
          conv => arg 8; simp [Act.put]
          refine wpAnyH_takeL (i := 2) (v := .int .i64 (j : Int)) #[true, true, true, false, false, false, false, false, false] rfl (by kernel_rfl) (by kernel_rfl) (by kernel_rfl) (fun _ _ _ h => h) (by kernel_rfl) (Stay.refl _ _) (Or.inl ⟨by rfl, fun W hW => ?_⟩) ?_
          · go_simp
          conv => arg 8; simp [Act.put]
          refine wpAnyH_takeL (i := 3) (v := .slice (some ⟨g, o, none⟩) j c) #[true, true, true, true, false, false, false, false, false] rfl (by kernel_rfl) (by kernel_rfl) (by kernel_rfl) (fun _ _ _ h => h) (by kernel_rfl) (Stay.refl _ _) (Or.inl ⟨by rfl, fun W hW => ?_⟩) ?_
          · (go_simp; try (intro hcj; exfalso; omega))
          conv => arg 8; simp [Act.put]
          refine wpAnyH_takeL (i := 5) #[true, true, true, true, false, true, false, false, false] rfl (by kernel_rfl) (by kernel_rfl) (by kernel_rfl) (fun _ _ _ h => h) (by kernel_rfl) (Stay.refl _ _) (yieldsIf_load rfl 28 (.tmp 3) rfl ⟨w.heap.size, 0, none⟩ rfl _ (fun W hW => ((show Box w2.drew w.heap.size (norm e) from HBW.out).stay0 hW).run_load)) ?_
          conv => arg 8; simp [Act.put]
          refine wpAnyH_ready (rs := [4, 6]) (by kernel_rfl) (by simp) ?_
          refine AllReadyH.cons (o := _) rfl (fun K hK => ?_) ?_
          · refine step_append_en rfl (.tmp 26) (.tmp 29) 25 rfl Try.underlying25 rfl rfl (EnO.nil w2.heap.size w2.drew) ((show EnS w2.drew (.slice (some ⟨g, o, none⟩) L.length c) L from HXW.out).first hjl) (by rw [List.length_nil, List.length_take]; have := HL.out; omega) (by exact Nat.le_refl _) ?_
            intro v1 z1 ho1 hs1 hb1
            have hs1' : Stay (fun _ => False) w2.drew z1 := hs1.mono (fun k hk => by cases hk)
            have HS1 := Lib.hid hs1'
            refine Shut.out hK _ _ HS1.out (fun _ => ?_)
            have HO1 := Lib.hid (show EnO w2.heap.size z1 v1 (L.take j) from ho1)
            clear ho1 hs1 hs1' hb1 hK
            refine wpAnyH_listedL #[true, true, true, true, true, true, false, false, false] (by kernel_rfl) ?_
            conv => arg 8; simp [Act.put]
            refine wpAnyH_one #[true, true, true, true, true, true, true, false, false] (i := 6) rfl (by kernel_rfl) (by kernel_rfl) (fun K hK => ?_)
            refine step_one_en rfl (.tmp 31) rfl (norm e) rfl ?_
            have hbn := Box.new z1 (norm e)
            have hsn : Stay (fun _ => False) z1 (z1.alloc (.cells (enC (norm e)).toArray 28)) := Stay.alloc _ _
            obtain ⟨za, hza⟩ : ∃ za, z1.alloc (.cells (enC (norm e)).toArray 28) = za := ⟨_, rfl⟩
            rw [hza] at hbn hsn ⊢
            have HSA := Lib.hid (HS1.out.trans hsn)
            have HO2 := Lib.hid (HO1.out.stay0 hsn)
            refine hK _ _ HSA.out ?_
            have HBN := Lib.hid hbn
            clear hbn hsn hza hK
            conv => arg 8; simp [Act.put]
            refine wpAnyH_one #[true, true, true, true, true, true, true, true, false] (i := 7) rfl (by kernel_rfl) (by kernel_rfl) (fun K hK => ?_)
            refine step_append_en rfl (.tmp 30) (.tmp 32) 25 rfl Try.underlying25 rfl rfl HO2.out (HBN.out.one 1 (by decide) (by decide)) (by rw [List.length_take, List.length_singleton]; have := HL.out; omega) (by exact HSA.out.size) ?_
            intro v2 z3 ho3 hs3 hb3
            have HS3 := Lib.hid (stay_seal (((HSA.out).mono (Y := fun k => v1.ownBlock = some k) (fun _ x => x.elim)).trans hs3) (fun k hk => ((HO2.out).lt k hk).1))
            have HO3 := Lib.hid ho3
            refine hK _ _ HS3.out ?_
            clear ho3 hs3 hb3 hK
            conv => arg 8; simp [Act.put]
            refine wpAnyH_takeL (i := 8) (v := v2) #[true, true, true, true, true, true, true, true, true] rfl (by kernel_rfl) (by kernel_rfl) (by kernel_rfl) (fun _ _ _ h => h) (by kernel_rfl) HS3.out (Or.inl ⟨by rfl, fun W hW => ?_⟩) ?_
            · go_simp
            conv => arg 8; simp [Act.put]
            refine wpAnyH_done (by kernel_rfl) ?_ _
            go_wp2
            have HTZ := Lib.hid (HTW.out.trans (Stay.drew.trans HS3.out))
            have HXZ := Lib.hid ((show EnS w2.drew _ L from HXW.out).stay0 HS3.out)
            have HBZ := Lib.hid ((show Box w2.drew w.heap.size (norm e) from HBW.out).stay0 HS3.out)
            have HSW := Lib.hid (HTW.out.size)
            have b0 := HBZ.out.c (j := 0) rfl
            rw [norm_k] at b0
            obtain ⟨g9, o9, e9, _, hc9⟩ := HXZ.out.at (by omega)
            cases e9
            obtain ⟨h0, _, _⟩ := hc9 _ q HQ.out
            clear hc9
            by_cases hk : q.k = e.k
            · have HPT := Lib.hid (show putL L e = (L.take j ++ [norm e]) ++ L.drop (j + 1) by unfold putL; rw [show hasB L e.k = true by unfold hasB; rw [HP.out, HQ.out]; simpa using hk, HP.out]; simp)
              rw [hk] at h0
              go_quiet (fail)
              have HS4 := Lib.hid (stay_drewN (X := fun _ => False) z3 nq)
              generalize z3.drewN nq = z4 at *
              have HO4 := Lib.hid (HO3.out.stay0 HS4.out)
              have HX4 := Lib.hid (HXZ.out.stay0 HS4.out)
              have HT4 := Lib.hid (HTZ.out.trans HS4.out)
              have HW4 := Lib.hid (show w2.heap.size ≤ z4.heap.size from Nat.le_trans (show w2.heap.size ≤ z3.heap.size from HS3.out.size) HS4.out.size)
              clear h0 b0
              by_cases hcm1 : c = j + 1
              · subst hcm1
                have HCUT := Lib.hid (show EnS z4 (.slice (some ⟨g, o, none⟩) 0 0) (L.drop (j + 1)) by rw [List.drop_eq_nil_of_le (by omega)]; exact EnS.empty _ _)
                go_wp2_with (at_builtin; refine wpList_append_en rfl (.tmp 50) (.tmp 53) 25 rfl Try.underlying25 rfl rfl HO4.out HCUT.out (by rw [List.length_append, List.length_take, List.length_singleton, List.length_drop]; have := HL.out; omega) HW4.out ?_; intro v5 w5 ho5 hs5 hb5; have HO5 := Lib.hid ho5; have HS5 := Lib.hid hs5; clear ho5 hs5 hb5)
                go_ret
                exact ⟨_, rfl, by rw [HPT.out]; exact HO5.out.rebase (fun k hk => by have h1 := (HO5.out.lt k hk).1; have h2 := HSW.out; omega), stay_seal ((HT4.out.mono (Y := fun k => v2.ownBlock = some k) (fun _ x => x.elim)).trans HS5.out) (fun k hk => by have h1 := (HO4.out.lt k hk).1; have h2 := HSW.out; omega)⟩
              · have HCUT := Lib.hid (HX4.out.cut_some (m := j + 1) (by omega) hcm1)
                go_wp2_with (at_builtin; refine wpList_append_en rfl (.tmp 50) (.tmp 53) 25 rfl Try.underlying25 rfl rfl HO4.out HCUT.out (by rw [List.length_append, List.length_take, List.length_singleton, List.length_drop]; have := HL.out; omega) HW4.out ?_; intro v5 w5 ho5 hs5 hb5; have HO5 := Lib.hid ho5; have HS5 := Lib.hid hs5; clear ho5 hs5 hb5)
                go_ret
                exact ⟨_, rfl, by rw [HPT.out]; exact HO5.out.rebase (fun k hk => by have h1 := (HO5.out.lt k hk).1; have h2 := HSW.out; omega), stay_seal ((HT4.out.mono (Y := fun k => v2.ownBlock = some k) (fun _ x => x.elim)).trans HS5.out) (fun k hk => by have h1 := (HO4.out.lt k hk).1; have h2 := HSW.out; omega)⟩
            · have HPT := Lib.hid (show putL L e = (L.take j ++ [norm e]) ++ L.drop j by unfold putL; rw [show hasB L e.k = false by unfold hasB; rw [HP.out, HQ.out]; simpa using hk, HP.out]; simp)
              have hkb : (q.k == e.k) = false := by simpa using hk
              go_quiet (fail)
              have HS4 := Lib.hid (stay_drewN (X := fun _ => False) z3 nq)
              generalize z3.drewN nq = z4 at *
              have HO4 := Lib.hid (HO3.out.stay0 HS4.out)
              have HX4 := Lib.hid (HXZ.out.stay0 HS4.out)
              have HT4 := Lib.hid (HTZ.out.trans HS4.out)
              have HW4 := Lib.hid (show w2.heap.size ≤ z4.heap.size from Nat.le_trans (show w2.heap.size ≤ z3.heap.size from HS3.out.size) HS4.out.size)
              clear h0 b0
              have hcj : ¬ c = j := by omega
              have HCUT := Lib.hid (HX4.out.cut_some (m := j) (by omega) hcj)
              go_wp2_with (at_builtin; refine wpList_append_en rfl (.tmp 50) (.tmp 53) 25 rfl Try.underlying25 rfl rfl HO4.out HCUT.out (by rw [List.length_append, List.length_take, List.length_singleton, List.length_drop]; have := HL.out; omega) HW4.out ?_; intro v5 w5 ho5 hs5 hb5; have HO5 := Lib.hid ho5; have HS5 := Lib.hid hs5; clear ho5 hs5 hb5)
              go_ret
              exact ⟨_, rfl, by rw [HPT.out]; exact HO5.out.rebase (fun k hk => by have h1 := (HO5.out.lt k hk).1; have h2 := HSW.out; omega), stay_seal ((HT4.out.mono (Y := fun k => v2.ownBlock = some k) (fun _ x => x.elim)).trans HS5.out) (fun k hk => by have h1 := (HO4.out.lt k hk).1; have h2 := HSW.out; omega)⟩
          refine AllReadyH.cons (o := _) rfl (fun K hK => ?_) ?_
          · refine step_one_en rfl (.tmp 31) rfl (norm e) rfl ?_
            have hbn := Box.new w2.drew (norm e)
            have hsn : Stay (fun _ => False) w2.drew (w2.drew.alloc (.cells (enC (norm e)).toArray 28)) := Stay.alloc _ _
            obtain ⟨za, hza⟩ : ∃ za, w2.drew.alloc (.cells (enC (norm e)).toArray 28) = za := ⟨_, rfl⟩
            rw [hza] at hbn hsn ⊢
            have HSA := Lib.hid hsn
            refine Shut.out hK _ _ HSA.out (fun _ => ?_)
            have HXA := Lib.hid ((show EnS w2.drew _ L from HXW.out).stay0 hsn)
            have HZA := Lib.hid (show w2.heap.size ≤ za.heap.size from hsn.size)
            have HBN := Lib.hid hbn
            clear hbn hsn hza hK
            refine wpAnyH_listedL #[true, true, true, true, false, true, true, false, false] (by kernel_rfl) ?_
            conv => arg 8; simp [Act.put]
            refine wpAnyH_one #[true, true, true, true, true, true, true, false, false] (i := 4) rfl (by kernel_rfl) (by kernel_rfl) (fun K hK => ?_)
            refine step_append_en rfl (.tmp 26) (.tmp 29) 25 rfl Try.underlying25 rfl rfl (EnO.nil w2.heap.size za) ((show EnS za (.slice (some ⟨g, o, none⟩) L.length c) L from HXA.out).first hjl) (by rw [List.length_nil, List.length_take]; have := HL.out; omega) (by have := HZA.out; omega) ?_
            intro v1 z1 ho1 hs1 hb1
            have hs1' : Stay (fun _ => False) za z1 := hs1.mono (fun k hk => by cases hk)
            have HS1 := Lib.hid (HSA.out.trans hs1')
            have HSL := Lib.hid hs1'
            refine hK _ _ HS1.out ?_
            have HO1 := Lib.hid (show EnO w2.heap.size z1 v1 (L.take j) from ho1)
            clear ho1 hs1 hs1' hb1 hK
            conv => arg 8; simp [Act.put]
            refine wpAnyH_one #[true, true, true, true, true, true, true, true, false] (i := 7) rfl (by kernel_rfl) (by kernel_rfl) (fun K hK => ?_)
            refine step_append_en rfl (.tmp 30) (.tmp 32) 25 rfl Try.underlying25 rfl rfl HO1.out ((HBN.out.stay0 HSL.out).one 1 (by decide) (by decide)) (by rw [List.length_take, List.length_singleton]; have := HL.out; omega) (by exact HS1.out.size) ?_
            intro v2 z3 ho3 hs3 hb3
            have HS3 := Lib.hid (stay_seal (((HS1.out).mono (Y := fun k => v1.ownBlock = some k) (fun _ x => x.elim)).trans hs3) (fun k hk => ((HO1.out).lt k hk).1))
            have HO3 := Lib.hid ho3
            refine hK _ _ HS3.out ?_
            clear ho3 hs3 hb3 hK
            conv => arg 8; simp [Act.put]
            refine wpAnyH_takeL (i := 8) (v := v2) #[true, true, true, true, true, true, true, true, true] rfl (by kernel_rfl) (by kernel_rfl) (by kernel_rfl) (fun _ _ _ h => h) (by kernel_rfl) HS3.out (Or.inl ⟨by rfl, fun W hW => ?_⟩) ?_
            · go_simp
            conv => arg 8; simp [Act.put]
            refine wpAnyH_done (by kernel_rfl) ?_ _
            go_wp2
            have HTZ := Lib.hid (HTW.out.trans (Stay.drew.trans HS3.out))
            have HXZ := Lib.hid ((show EnS w2.drew _ L from HXW.out).stay0 HS3.out)
            have HBZ := Lib.hid ((show Box w2.drew w.heap.size (norm e) from HBW.out).stay0 HS3.out)
            have HSW := Lib.hid (HTW.out.size)
            have b0 := HBZ.out.c (j := 0) rfl
            rw [norm_k] at b0
            obtain ⟨g9, o9, e9, _, hc9⟩ := HXZ.out.at (by omega)
            cases e9
            obtain ⟨h0, _, _⟩ := hc9 _ q HQ.out
            clear hc9
            by_cases hk : q.k = e.k
            · have HPT := Lib.hid (show putL L e = (L.take j ++ [norm e]) ++ L.drop (j + 1) by unfold putL; rw [show hasB L e.k = true by unfold hasB; rw [HP.out, HQ.out]; simpa using hk, HP.out]; simp)
              rw [hk] at h0
              go_quiet (fail)
              have HS4 := Lib.hid (stay_drewN (X := fun _ => False) z3 nq)
              generalize z3.drewN nq = z4 at *
              have HO4 := Lib.hid (HO3.out.stay0 HS4.out)
              have HX4 := Lib.hid (HXZ.out.stay0 HS4.out)
              have HT4 := Lib.hid (HTZ.out.trans HS4.out)
              have HW4 := Lib.hid (show w2.heap.size ≤ z4.heap.size from Nat.le_trans (show w2.heap.size ≤ z3.heap.size from HS3.out.size) HS4.out.size)
              clear h0 b0
              by_cases hcm1 : c = j + 1
              · subst hcm1
                have HCUT := Lib.hid (show EnS z4 (.slice (some ⟨g, o, none⟩) 0 0) (L.drop (j + 1)) by rw [List.drop_eq_nil_of_le (by omega)]; exact EnS.empty _ _)
                go_wp2_with (at_builtin; refine wpList_append_en rfl (.tmp 50) (.tmp 53) 25 rfl Try.underlying25 rfl rfl HO4.out HCUT.out (by rw [List.length_append, List.length_take, List.length_singleton, List.length_drop]; have := HL.out; omega) HW4.out ?_; intro v5 w5 ho5 hs5 hb5; have HO5 := Lib.hid ho5; have HS5 := Lib.hid hs5; clear ho5 hs5 hb5)
                go_ret
                exact ⟨_, rfl, by rw [HPT.out]; exact HO5.out.rebase (fun k hk => by have h1 := (HO5.out.lt k hk).1; have h2 := HSW.out; omega), stay_seal ((HT4.out.mono (Y := fun k => v2.ownBlock = some k) (fun _ x => x.elim)).trans HS5.out) (fun k hk => by have h1 := (HO4.out.lt k hk).1; have h2 := HSW.out; omega)⟩
              · have HCUT := Lib.hid (HX4.out.cut_some (m := j + 1) (by omega) hcm1)
                go_wp2_with (at_builtin; refine wpList_append_en rfl (.tmp 50) (.tmp 53) 25 rfl Try.underlying25 rfl rfl HO4.out HCUT.out (by rw [List.length_append, List.length_take, List.length_singleton, List.length_drop]; have := HL.out; omega) HW4.out ?_; intro v5 w5 ho5 hs5 hb5; have HO5 := Lib.hid ho5; have HS5 := Lib.hid hs5; clear ho5 hs5 hb5)
                go_ret
                exact ⟨_, rfl, by rw [HPT.out]; exact HO5.out.rebase (fun k hk => by have h1 := (HO5.out.lt k hk).1; have h2 := HSW.out; omega), stay_seal ((HT4.out.mono (Y := fun k => v2.ownBlock = some k) (fun _ x => x.elim)).trans HS5.out) (fun k hk => by have h1 := (HO4.out.lt k hk).1; have h2 := HSW.out; omega)⟩
            · have HPT := Lib.hid (show putL L e = (L.take j ++ [norm e]) ++ L.drop j by unfold putL; rw [show hasB L e.k = false by unfold hasB; rw [HP.out, HQ.out]; simpa using hk, HP.out]; simp)
              have hkb : (q.k == e.k) = false := by simpa using hk
              go_quiet (fail)
              have HS4 := Lib.hid (stay_drewN (X := fun _ => False) z3 nq)
              generalize z3.drewN nq = z4 at *
              have HO4 := Lib.hid (HO3.out.stay0 HS4.out)
              have HX4 := Lib.hid (HXZ.out.stay0 HS4.out)
              have HT4 := Lib.hid (HTZ.out.trans HS4.out)
              have HW4 := Lib.hid (show w2.heap.size ≤ z4.heap.size from Nat.le_trans (show w2.heap.size ≤ z3.heap.size from HS3.out.size) HS4.out.size)
              clear h0 b0
              have hcj : ¬ c = j := by omega
              have HCUT := Lib.hid (HX4.out.cut_some (m := j) (by omega) hcj)
              go_wp2_with (at_builtin; refine wpList_append_en rfl (.tmp 50) (.tmp 53) 25 rfl Try.underlying25 rfl rfl HO4.out HCUT.out (by rw [List.length_append, List.length_take, List.length_singleton, List.length_drop]; have := HL.out; omega) HW4.out ?_; intro v5 w5 ho5 hs5 hb5; have HO5 := Lib.hid ho5; have HS5 := Lib.hid hs5; clear ho5 hs5 hb5)
              go_ret
              exact ⟨_, rfl, by rw [HPT.out]; exact HO5.out.rebase (fun k hk => by have h1 := (HO5.out.lt k hk).1; have h2 := HSW.out; omega), stay_seal ((HT4.out.mono (Y := fun k => v2.ownBlock = some k) (fun _ x => x.elim)).trans HS5.out) (fun k hk => by have h1 := (HO4.out.lt k hk).1; have h2 := HSW.out; omega)⟩
          exact AllReadyH.nil
      · obtain rfl : j = L.length := by omega
        have HP := Lib.hid (show posN L e.k = L.length by omega)
        clear hj hple
        cases a0 with
        | none =>
          obtain rfl := HNIL.out rfl
          have hL0 : L.length = 0 := by omega
          have hLn : L = [] := List.eq_nil_of_length_eq_zero hL0
          have hjl : 0 ≤ L.length := Nat.zero_le _
          rw [hL0] at HP ⊢
          go_wp2
          go_quiet (fail)
          have HS2 := Lib.hid (stay_drewN (X := fun _ => False) wr nq)
          generalize wr.drewN nq = w2 at *
          clear b0
          have HXW := Lib.hid (HXR.out.stay0 HS2.out)
          have HBW := Lib.hid (HBR.out.stay0 HS2.out)
          have HTW := Lib.hid (HST.out.trans (HT.out.trans HS2.out))
          have HLW := Lib.hid (show w.heap.size + 1 ≤ w2.heap.size by have h1 := (HT.out.trans HS2.out).size; have h2 := HSZ.out; omega)
          clear HXR HBR HS2
          go_wp2
          refine wp_region_held (S := Stay (fun _ => False) w2.drew) (by kernel_rfl) ?_
          change wpAnyH _ _ _ _ _ _ _ _ (World.drew _)
          refine wpAnyH_takeL (i := 0) (v := .slice none 0 0) #[true, false, false, false, false, false, false, false, false] rfl (by kernel_rfl) (by kernel_rfl) (by kernel_rfl) (fun _ _ _ h => h) (by kernel_rfl) (Stay.refl _ _) (Or.inl ⟨by rfl, fun W hW => ?_⟩) ?_
          · go_simp
          conv => arg 8; simp [Act.put]
          refine wpAnyH_takeL (i := 1) (v := .slice none 0 0) #[true, true, false, false, false, false, false, false, false] rfl (by kernel_rfl) (by kernel_rfl) (by kernel_rfl) (fun _ _ _ h => h) (by kernel_rfl) (Stay.refl _ _) (Or.inl ⟨by rfl, fun W hW => ?_⟩) ?_
          · go_simp
          conv => arg 8; simp [Act.put]
          refine wpAnyH_takeL (i := 2) (v := .int .i64 0) #[true, true, true, false, false, false, false, false, false] rfl (by kernel_rfl) (by kernel_rfl) (by kernel_rfl) (fun _ _ _ h => h) (by kernel_rfl) (Stay.refl _ _) (Or.inl ⟨by rfl, fun W hW => ?_⟩) ?_
          · go_simp
          conv => arg 8; simp [Act.put]
          refine wpAnyH_takeL (i := 3) (v := .slice none 0 0) #[true, true, true, true, false, false, false, false, false] rfl (by kernel_rfl) (by kernel_rfl) (by kernel_rfl) (fun _ _ _ h => h) (by kernel_rfl) (Stay.refl _ _) (Or.inl ⟨by rfl, fun W hW => ?_⟩) ?_
          · (go_simp; try (intro hcj; exfalso; omega))
          conv => arg 8; simp [Act.put]
          refine wpAnyH_takeL (i := 5) #[true, true, true, true, false, true, false, false, false] rfl (by kernel_rfl) (by kernel_rfl) (by kernel_rfl) (fun _ _ _ h => h) (by kernel_rfl) (Stay.refl _ _) (yieldsIf_load rfl 28 (.tmp 3) rfl ⟨w.heap.size, 0, none⟩ rfl _ (fun W hW => ((show Box w2.drew w.heap.size (norm e) from HBW.out).stay0 hW).run_load)) ?_
          conv => arg 8; simp [Act.put]
          refine wpAnyH_ready (rs := [4, 6]) (by kernel_rfl) (by simp) ?_
          refine AllReadyH.cons (o := _) rfl (fun K hK => ?_) ?_
          · refine step_append_en rfl (.tmp 26) (.tmp 29) 25 rfl Try.underlying25 rfl rfl (EnO.nil w2.heap.size w2.drew) ((show EnS w2.drew (.slice none L.length 0) L from HXW.out).first hjl) (by rw [List.length_nil, List.length_take]; have := HL.out; omega) (by exact Nat.le_refl _) ?_
            intro v1 z1 ho1 hs1 hb1
            have hs1' : Stay (fun _ => False) w2.drew z1 := hs1.mono (fun k hk => by cases hk)
            have HS1 := Lib.hid hs1'
            refine Shut.out hK _ _ HS1.out (fun _ => ?_)
            have HO1 := Lib.hid (show EnO w2.heap.size z1 v1 (L.take 0) from ho1)
            clear ho1 hs1 hs1' hb1 hK
            refine wpAnyH_listedL #[true, true, true, true, true, true, false, false, false] (by kernel_rfl) ?_
            conv => arg 8; simp [Act.put]
            refine wpAnyH_one #[true, true, true, true, true, true, true, false, false] (i := 6) rfl (by kernel_rfl) (by kernel_rfl) (fun K hK => ?_)
            refine step_one_en rfl (.tmp 31) rfl (norm e) rfl ?_
            have hbn := Box.new z1 (norm e)
            have hsn : Stay (fun _ => False) z1 (z1.alloc (.cells (enC (norm e)).toArray 28)) := Stay.alloc _ _
            obtain ⟨za, hza⟩ : ∃ za, z1.alloc (.cells (enC (norm e)).toArray 28) = za := ⟨_, rfl⟩
            rw [hza] at hbn hsn ⊢
            have HSA := Lib.hid (HS1.out.trans hsn)
            have HO2 := Lib.hid (HO1.out.stay0 hsn)
            refine hK _ _ HSA.out ?_
            have HBN := Lib.hid hbn
            clear hbn hsn hza hK
            conv => arg 8; simp [Act.put]
            refine wpAnyH_one #[true, true, true, true, true, true, true, true, false] (i := 7) rfl (by kernel_rfl) (by kernel_rfl) (fun K hK => ?_)
            refine step_append_en rfl (.tmp 30) (.tmp 32) 25 rfl Try.underlying25 rfl rfl HO2.out (HBN.out.one 1 (by decide) (by decide)) (by rw [List.length_take, List.length_singleton]; have := HL.out; omega) (by exact HSA.out.size) ?_
            intro v2 z3 ho3 hs3 hb3
            have HS3 := Lib.hid (stay_seal (((HSA.out).mono (Y := fun k => v1.ownBlock = some k) (fun _ x => x.elim)).trans hs3) (fun k hk => ((HO2.out).lt k hk).1))
            have HO3 := Lib.hid ho3
            refine hK _ _ HS3.out ?_
            clear ho3 hs3 hb3 hK
            conv => arg 8; simp [Act.put]
            refine wpAnyH_takeL (i := 8) (v := v2) #[true, true, true, true, true, true, true, true, true] rfl (by kernel_rfl) (by kernel_rfl) (by kernel_rfl) (fun _ _ _ h => h) (by kernel_rfl) HS3.out (Or.inl ⟨by rfl, fun W hW => ?_⟩) ?_
            · go_simp
            conv => arg 8; simp [Act.put]
            refine wpAnyH_done (by kernel_rfl) ?_ _
            go_wp2
            have HTZ := Lib.hid (HTW.out.trans (Stay.drew.trans HS3.out))
            have HXZ := Lib.hid ((show EnS w2.drew _ L from HXW.out).stay0 HS3.out)
            have HBZ := Lib.hid ((show Box w2.drew w.heap.size (norm e) from HBW.out).stay0 HS3.out)
            have HSW := Lib.hid (HTW.out.size)
            have b0 := HBZ.out.c (j := 0) rfl
            rw [norm_k] at b0
            have HPT := Lib.hid (show putL L e = (L.take 0 ++ [norm e]) ++ [] by unfold putL; rw [show hasB L e.k = false by unfold hasB; rw [HP.out, List.getElem?_eq_none (by omega)], HP.out]; simp [hLn])
            go_quiet (fail)
            have HS4 := Lib.hid (stay_drewN (X := fun _ => False) z3 nq)
            generalize z3.drewN nq = z4 at *
            have HO4 := Lib.hid (HO3.out.stay0 HS4.out)
            have HT4 := Lib.hid (HTZ.out.trans HS4.out)
            have HW4 := Lib.hid (show w2.heap.size ≤ z4.heap.size from Nat.le_trans (show w2.heap.size ≤ z3.heap.size from HS3.out.size) HS4.out.size)
            clear b0
            have HCUT := Lib.hid (EnS.nil z4)
            go_wp2_with (at_builtin; refine wpList_append_en rfl (.tmp 50) (.tmp 53) 25 rfl Try.underlying25 rfl rfl HO4.out HCUT.out (by rw [List.length_append, List.length_take, List.length_singleton, List.length_nil]; have := HL.out; omega) HW4.out ?_; intro v5 w5 ho5 hs5 hb5; have HO5 := Lib.hid ho5; have HS5 := Lib.hid hs5; clear ho5 hs5 hb5)
            go_ret
            exact ⟨_, rfl, by rw [HPT.out]; exact HO5.out.rebase (fun k hk => by have h1 := (HO5.out.lt k hk).1; have h2 := HSW.out; omega), stay_seal ((HT4.out.mono (Y := fun k => v2.ownBlock = some k) (fun _ x => x.elim)).trans HS5.out) (fun k hk => by have h1 := (HO4.out.lt k hk).1; have h2 := HSW.out; omega)⟩
          refine AllReadyH.cons (o := _) rfl (fun K hK => ?_) ?_
          · refine step_one_en rfl (.tmp 31) rfl (norm e) rfl ?_
            have hbn := Box.new w2.drew (norm e)
            have hsn : Stay (fun _ => False) w2.drew (w2.drew.alloc (.cells (enC (norm e)).toArray 28)) := Stay.alloc _ _
            obtain ⟨za, hza⟩ : ∃ za, w2.drew.alloc (.cells (enC (norm e)).toArray 28) = za := ⟨_, rfl⟩
            rw [hza] at hbn hsn ⊢
            have HSA := Lib.hid hsn
            refine Shut.out hK _ _ HSA.out (fun _ => ?_)
            have HXA := Lib.hid ((show EnS w2.drew _ L from HXW.out).stay0 hsn)
            have HZA := Lib.hid (show w2.heap.size ≤ za.heap.size from hsn.size)
            have HBN := Lib.hid hbn
            clear hbn hsn hza hK
            refine wpAnyH_listedL #[true, true, true, true, false, true, true, false, false] (by kernel_rfl) ?_
            conv => arg 8; simp [Act.put]
            refine wpAnyH_one #[true, true, true, true, true, true, true, false, false] (i := 4) rfl (by kernel_rfl) (by kernel_rfl) (fun K hK => ?_)
            refine step_append_en rfl (.tmp 26) (.tmp 29) 25 rfl Try.underlying25 rfl rfl (EnO.nil w2.heap.size za) ((show EnS za (.slice none L.length 0) L from HXA.out).first hjl) (by rw [List.length_nil, List.length_take]; have := HL.out; omega) (by have := HZA.out; omega) ?_
            intro v1 z1 ho1 hs1 hb1
            have hs1' : Stay (fun _ => False) za z1 := hs1.mono (fun k hk => by cases hk)
            have HS1 := Lib.hid (HSA.out.trans hs1')
            have HSL := Lib.hid hs1'
            refine hK _ _ HS1.out ?_
            have HO1 := Lib.hid (show EnO w2.heap.size z1 v1 (L.take 0) from ho1)
            clear ho1 hs1 hs1' hb1 hK
            conv => arg 8; simp [Act.put]
            refine wpAnyH_one #[true, true, true, true, true, true, true, true, false] (i := 7) rfl (by kernel_rfl) (by kernel_rfl) (fun K hK => ?_)
            refine step_append_en rfl (.tmp 30) (.tmp 32) 25 rfl Try.underlying25 rfl rfl HO1.out ((HBN.out.stay0 HSL.out).one 1 (by decide) (by decide)) (by rw [List.length_take, List.length_singleton]; have := HL.out; omega) (by exact HS1.out.size) ?_
            intro v2 z3 ho3 hs3 hb3
            have HS3 := Lib.hid (stay_seal (((HS1.out).mono (Y := fun k => v1.ownBlock = some k) (fun _ x => x.elim)).trans hs3) (fun k hk => ((HO1.out).lt k hk).1))
            have HO3 := Lib.hid ho3
            refine hK _ _ HS3.out ?_
            clear ho3 hs3 hb3 hK
            conv => arg 8; simp [Act.put]
            refine wpAnyH_takeL (i := 8) (v := v2) #[true, true, true, true, true, true, true, true, true] rfl (by kernel_rfl) (by kernel_rfl) (by kernel_rfl) (fun _ _ _ h => h) (by kernel_rfl) HS3.out (Or.inl ⟨by rfl, fun W hW => ?_⟩) ?_
            · go_simp
            conv => arg 8; simp [Act.put]
            refine wpAnyH_done (by kernel_rfl) ?_ _
            go_wp2
            have HTZ := Lib.hid (HTW.out.trans (Stay.drew.trans HS3.out))
            have HXZ := Lib.hid ((show EnS w2.drew _ L from HXW.out).stay0 HS3.out)
            have HBZ := Lib.hid ((show Box w2.drew w.heap.size (norm e) from HBW.out).stay0 HS3.out)
            have HSW := Lib.hid (HTW.out.size)
            have b0 := HBZ.out.c (j := 0) rfl
            rw [norm_k] at b0
            have HPT := Lib.hid (show putL L e = (L.take 0 ++ [norm e]) ++ [] by unfold putL; rw [show hasB L e.k = false by unfold hasB; rw [HP.out, List.getElem?_eq_none (by omega)], HP.out]; simp [hLn])
            go_quiet (fail)
            have HS4 := Lib.hid (stay_drewN (X := fun _ => False) z3 nq)
            generalize z3.drewN nq = z4 at *
            have HO4 := Lib.hid (HO3.out.stay0 HS4.out)
            have HT4 := Lib.hid (HTZ.out.trans HS4.out)
            have HW4 := Lib.hid (show w2.heap.size ≤ z4.heap.size from Nat.le_trans (show w2.heap.size ≤ z3.heap.size from HS3.out.size) HS4.out.size)
            clear b0
            have HCUT := Lib.hid (EnS.nil z4)
            go_wp2_with (at_builtin; refine wpList_append_en rfl (.tmp 50) (.tmp 53) 25 rfl Try.underlying25 rfl rfl HO4.out HCUT.out (by rw [List.length_append, List.length_take, List.length_singleton, List.length_nil]; have := HL.out; omega) HW4.out ?_; intro v5 w5 ho5 hs5 hb5; have HO5 := Lib.hid ho5; have HS5 := Lib.hid hs5; clear ho5 hs5 hb5)
            go_ret
            exact ⟨_, rfl, by rw [HPT.out]; exact HO5.out.rebase (fun k hk => by have h1 := (HO5.out.lt k hk).1; have h2 := HSW.out; omega), stay_seal ((HT4.out.mono (Y := fun k => v2.ownBlock = some k) (fun _ x => x.elim)).trans HS5.out) (fun k hk => by have h1 := (HO4.out.lt k hk).1; have h2 := HSW.out; omega)⟩
          exact AllReadyH.nil
        | some ad =>
          have hjl : L.length ≤ L.length := Nat.le_refl _
          go_wp2
          go_quiet (fail)
          have HS2 := Lib.hid (stay_drewN (X := fun _ => False) wr nq)
          generalize wr.drewN nq = w2 at *
          clear b0
          have HXW := Lib.hid (HXR.out.stay0 HS2.out)
          have HBW := Lib.hid (HBR.out.stay0 HS2.out)
          have HTW := Lib.hid (HST.out.trans (HT.out.trans HS2.out))
          have HLW := Lib.hid (show w.heap.size + 1 ≤ w2.heap.size by have h1 := (HT.out.trans HS2.out).size; have h2 := HSZ.out; omega)
          clear HXR HBR HS2
          go_wp2
          refine wp_region_held (S := Stay (fun _ => False) w2.drew) (by kernel_rfl) ?_
          change wpAnyH _ _ _ _ _ _ _ _ (World.drew _)
          refine wpAnyH_takeL (i := 0) (v := .slice none 0 0) #[true, false, false, false, false, false, false, false, false] rfl (by kernel_rfl) (by kernel_rfl) (by kernel_rfl) (fun _ _ _ h => h) (by kernel_rfl) (Stay.refl _ _) (Or.inl ⟨by rfl, fun W hW => ?_⟩) ?_
          · go_simp
          conv => arg 8; simp [Act.put]
          refine wpAnyH_takeL (i := 1) (v := .slice (some ad) L.length c) #[true, true, false, false, false, false, false, false, false] rfl (by kernel_rfl) (by kernel_rfl) (by kernel_rfl) (fun _ _ _ h => h) (by kernel_rfl) (Stay.refl _ _) (Or.inl ⟨by rfl, fun W hW => ?_⟩) ?_
          · go_simp
          conv => arg 8; simp [Act.put]
          refine wpAnyH_takeL (i := 2) (v := .int .i64 (L.length : Int)) #[true, true, true, false, false, false, false, false, false] rfl (by kernel_rfl) (by kernel_rfl) (by kernel_rfl) (fun _ _ _ h => h) (by kernel_rfl) (Stay.refl _ _) (Or.inl ⟨by rfl, fun W hW => ?_⟩) ?_
          · go_simp
          conv => arg 8; simp [Act.put]
          refine wpAnyH_takeL (i := 3) (v := .slice (some ad) L.length c) #[true, true, true, true, false, false, false, false, false] rfl (by kernel_rfl) (by kernel_rfl) (by kernel_rfl) (fun _ _ _ h => h) (by kernel_rfl) (Stay.refl _ _) (Or.inl ⟨by rfl, fun W hW => ?_⟩) ?_
          · (go_simp; try (intro hcj; exfalso; omega))
          conv => arg 8; simp [Act.put]
          refine wpAnyH_takeL (i := 5) #[true, true, true, true, false, true, false, false, false] rfl (by kernel_rfl) (by kernel_rfl) (by kernel_rfl) (fun _ _ _ h => h) (by kernel_rfl) (Stay.refl _ _) (yieldsIf_load rfl 28 (.tmp 3) rfl ⟨w.heap.size, 0, none⟩ rfl _ (fun W hW => ((show Box w2.drew w.heap.size (norm e) from HBW.out).stay0 hW).run_load)) ?_
          conv => arg 8; simp [Act.put]
          refine wpAnyH_ready (rs := [4, 6]) (by kernel_rfl) (by simp) ?_
          refine AllReadyH.cons (o := _) rfl (fun K hK => ?_) ?_
          · refine step_append_en rfl (.tmp 26) (.tmp 29) 25 rfl Try.underlying25 rfl rfl (EnO.nil w2.heap.size w2.drew) ((show EnS w2.drew (.slice (some ad) L.length c) L from HXW.out).first hjl) (by rw [List.length_nil, List.length_take]; have := HL.out; omega) (by exact Nat.le_refl _) ?_
            intro v1 z1 ho1 hs1 hb1
            have hs1' : Stay (fun _ => False) w2.drew z1 := hs1.mono (fun k hk => by cases hk)
            have HS1 := Lib.hid hs1'
            refine Shut.out hK _ _ HS1.out (fun _ => ?_)
            have HO1 := Lib.hid (show EnO w2.heap.size z1 v1 (L.take L.length) from ho1)
            clear ho1 hs1 hs1' hb1 hK
            refine wpAnyH_listedL #[true, true, true, true, true, true, false, false, false] (by kernel_rfl) ?_
            conv => arg 8; simp [Act.put]
            refine wpAnyH_one #[true, true, true, true, true, true, true, false, false] (i := 6) rfl (by kernel_rfl) (by kernel_rfl) (fun K hK => ?_)
            refine step_one_en rfl (.tmp 31) rfl (norm e) rfl ?_
            have hbn := Box.new z1 (norm e)
            have hsn : Stay (fun _ => False) z1 (z1.alloc (.cells (enC (norm e)).toArray 28)) := Stay.alloc _ _
            obtain ⟨za, hza⟩ : ∃ za, z1.alloc (.cells (enC (norm e)).toArray 28) = za := ⟨_, rfl⟩
            rw [hza] at hbn hsn ⊢
            have HSA := Lib.hid (HS1.out.trans hsn)
            have HO2 := Lib.hid (HO1.out.stay0 hsn)
            refine hK _ _ HSA.out ?_
            have HBN := Lib.hid hbn
            clear hbn hsn hza hK
            conv => arg 8; simp [Act.put]
            refine wpAnyH_one #[true, true, true, true, true, true, true, true, false] (i := 7) rfl (by kernel_rfl) (by kernel_rfl) (fun K hK => ?_)
            refine step_append_en rfl (.tmp 30) (.tmp 32) 25 rfl Try.underlying25 rfl rfl HO2.out (HBN.out.one 1 (by decide) (by decide)) (by rw [List.length_take, List.length_singleton]; have := HL.out; omega) (by exact HSA.out.size) ?_
            intro v2 z3 ho3 hs3 hb3
            have HS3 := Lib.hid (stay_seal (((HSA.out).mono (Y := fun k => v1.ownBlock = some k) (fun _ x => x.elim)).trans hs3) (fun k hk => ((HO2.out).lt k hk).1))
            have HO3 := Lib.hid ho3
            refine hK _ _ HS3.out ?_
            clear ho3 hs3 hb3 hK
            conv => arg 8; simp [Act.put]
            refine wpAnyH_takeL (i := 8) (v := v2) #[true, true, true, true, true, true, true, true, true] rfl (by kernel_rfl) (by kernel_rfl) (by kernel_rfl) (fun _ _ _ h => h) (by kernel_rfl) HS3.out (Or.inl ⟨by rfl, fun W hW => ?_⟩) ?_
            · go_simp
            conv => arg 8; simp [Act.put]
            refine wpAnyH_done (by kernel_rfl) ?_ _
            go_wp2
            have HTZ := Lib.hid (HTW.out.trans (Stay.drew.trans HS3.out))
            have HXZ := Lib.hid ((show EnS w2.drew _ L from HXW.out).stay0 HS3.out)
            have HBZ := Lib.hid ((show Box w2.drew w.heap.size (norm e) from HBW.out).stay0 HS3.out)
            have HSW := Lib.hid (HTW.out.size)
            have b0 := HBZ.out.c (j := 0) rfl
            rw [norm_k] at b0
            have HPT := Lib.hid (show putL L e = (L.take L.length ++ [norm e]) ++ [] by unfold putL; rw [show hasB L e.k = false by unfold hasB; rw [HP.out, List.getElem?_eq_none (by omega)], HP.out]; simp)
            go_quiet (fail)
            have HS4 := Lib.hid (stay_drewN (X := fun _ => False) z3 nq)
            generalize z3.drewN nq = z4 at *
            have HO4 := Lib.hid (HO3.out.stay0 HS4.out)
            have HT4 := Lib.hid (HTZ.out.trans HS4.out)
            have HW4 := Lib.hid (show w2.heap.size ≤ z4.heap.size from Nat.le_trans (show w2.heap.size ≤ z3.heap.size from HS3.out.size) HS4.out.size)
            clear b0
            by_cases hcm1 : c = L.length
            · subst hcm1
              have HCUT := Lib.hid (EnS.empty z4 ad)
              go_wp2_with (at_builtin; refine wpList_append_en rfl (.tmp 50) (.tmp 53) 25 rfl Try.underlying25 rfl rfl HO4.out HCUT.out (by rw [List.length_append, List.length_take, List.length_singleton, List.length_nil]; have := HL.out; omega) HW4.out ?_; intro v5 w5 ho5 hs5 hb5; have HO5 := Lib.hid ho5; have HS5 := Lib.hid hs5; clear ho5 hs5 hb5)
              go_ret
              exact ⟨_, rfl, by rw [HPT.out]; exact HO5.out.rebase (fun k hk => by have h1 := (HO5.out.lt k hk).1; have h2 := HSW.out; omega), stay_seal ((HT4.out.mono (Y := fun k => v2.ownBlock = some k) (fun _ x => x.elim)).trans HS5.out) (fun k hk => by have h1 := (HO4.out.lt k hk).1; have h2 := HSW.out; omega)⟩
            · have HCUT := Lib.hid (show EnS z4 (.slice (some (ad.add (L.length * 3))) 0 (c - L.length)) [] from ⟨_, _, rfl, Nat.zero_le _, by omega, (fun h => by cases h), fun h => absurd h (Nat.lt_irrefl 0)⟩)
              go_wp2_with (at_builtin; refine wpList_append_en rfl (.tmp 50) (.tmp 53) 25 rfl Try.underlying25 rfl rfl HO4.out HCUT.out (by rw [List.length_append, List.length_take, List.length_singleton, List.length_nil]; have := HL.out; omega) HW4.out ?_; intro v5 w5 ho5 hs5 hb5; have HO5 := Lib.hid ho5; have HS5 := Lib.hid hs5; clear ho5 hs5 hb5)
              go_ret
              exact ⟨_, rfl, by rw [HPT.out]; exact HO5.out.rebase (fun k hk => by have h1 := (HO5.out.lt k hk).1; have h2 := HSW.out; omega), stay_seal ((HT4.out.mono (Y := fun k => v2.ownBlock = some k) (fun _ x => x.elim)).trans HS5.out) (fun k hk => by have h1 := (HO4.out.lt k hk).1; have h2 := HSW.out; omega)⟩
          refine AllReadyH.cons (o := _) rfl (fun K hK => ?_) ?_
          · refine step_one_en rfl (.tmp 31) rfl (norm e) rfl ?_
            have hbn := Box.new w2.drew (norm e)
            have hsn : Stay (fun _ => False) w2.drew (w2.drew.alloc (.cells (enC (norm e)).toArray 28)) := Stay.alloc _ _
            obtain ⟨za, hza⟩ : ∃ za, w2.drew.alloc (.cells (enC (norm e)).toArray 28) = za := ⟨_, rfl⟩
            rw [hza] at hbn hsn ⊢
            have HSA := Lib.hid hsn
            refine Shut.out hK _ _ HSA.out (fun _ => ?_)
            have HXA := Lib.hid ((show EnS w2.drew _ L from HXW.out).stay0 hsn)
            have HZA := Lib.hid (show w2.heap.size ≤ za.heap.size from hsn.size)
            have HBN := Lib.hid hbn
            clear hbn hsn hza hK
            refine wpAnyH_listedL #[true, true, true, true, false, true, true, false, false] (by kernel_rfl) ?_
            conv => arg 8; simp [Act.put]
            refine wpAnyH_one #[true, true, true, true, true, true, true, false, false] (i := 4) rfl (by kernel_rfl) (by kernel_rfl) (fun K hK => ?_)
            refine step_append_en rfl (.tmp 26) (.tmp 29) 25 rfl Try.underlying25 rfl rfl (EnO.nil w2.heap.size za) ((show EnS za (.slice (some ad) L.length c) L from HXA.out).first hjl) (by rw [List.length_nil, List.length_take]; have := HL.out; omega) (by have := HZA.out; omega) ?_
            intro v1 z1 ho1 hs1 hb1
            have hs1' : Stay (fun _ => False) za z1 := hs1.mono (fun k hk => by cases hk)
            have HS1 := Lib.hid (HSA.out.trans hs1')
            have HSL := Lib.hid hs1'
            refine hK _ _ HS1.out ?_
            have HO1 := Lib.hid (show EnO w2.heap.size z1 v1 (L.take L.length) from ho1)
            clear ho1 hs1 hs1' hb1 hK
            conv => arg 8; simp [Act.put]
            refine wpAnyH_one #[true, true, true, true, true, true, true, true, false] (i := 7) rfl (by kernel_rfl) (by kernel_rfl) (fun K hK => ?_)
            refine step_append_en rfl (.tmp 30) (.tmp 32) 25 rfl Try.underlying25 rfl rfl HO1.out ((HBN.out.stay0 HSL.out).one 1 (by decide) (by decide)) (by rw [List.length_take, List.length_singleton]; have := HL.out; omega) (by exact HS1.out.size) ?_
            intro v2 z3 ho3 hs3 hb3
            have HS3 := Lib.hid (stay_seal (((HS1.out).mono (Y := fun k => v1.ownBlock = some k) (fun _ x => x.elim)).trans hs3) (fun k hk => ((HO1.out).lt k hk).1))
            have HO3 := Lib.hid ho3
            refine hK _ _ HS3.out ?_
            clear ho3 hs3 hb3 hK
            conv => arg 8; simp [Act.put]
            refine wpAnyH_takeL (i := 8) (v := v2) #[true, true, true, true, true, true, true, true, true] rfl (by kernel_rfl) (by kernel_rfl) (by kernel_rfl) (fun _ _ _ h => h) (by kernel_rfl) HS3.out (Or.inl ⟨by rfl, fun W hW => ?_⟩) ?_
            · go_simp
            conv => arg 8; simp [Act.put]
            refine wpAnyH_done (by kernel_rfl) ?_ _
            go_wp2
            have HTZ := Lib.hid (HTW.out.trans (Stay.drew.trans HS3.out))
            have HXZ := Lib.hid ((show EnS w2.drew _ L from HXW.out).stay0 HS3.out)
            have HBZ := Lib.hid ((show Box w2.drew w.heap.size (norm e) from HBW.out).stay0 HS3.out)
            have HSW := Lib.hid (HTW.out.size)
            have b0 := HBZ.out.c (j := 0) rfl
            rw [norm_k] at b0
            have HPT := Lib.hid (show putL L e = (L.take L.length ++ [norm e]) ++ [] by unfold putL; rw [show hasB L e.k = false by unfold hasB; rw [HP.out, List.getElem?_eq_none (by omega)], HP.out]; simp)
            go_quiet (fail)
            have HS4 := Lib.hid (stay_drewN (X := fun _ => False) z3 nq)
            generalize z3.drewN nq = z4 at *
            have HO4 := Lib.hid (HO3.out.stay0 HS4.out)
            have HT4 := Lib.hid (HTZ.out.trans HS4.out)
            have HW4 := Lib.hid (show w2.heap.size ≤ z4.heap.size from Nat.le_trans (show w2.heap.size ≤ z3.heap.size from HS3.out.size) HS4.out.size)
            clear b0
            by_cases hcm1 : c = L.length
            · subst hcm1
              have HCUT := Lib.hid (EnS.empty z4 ad)
              go_wp2_with (at_builtin; refine wpList_append_en rfl (.tmp 50) (.tmp 53) 25 rfl Try.underlying25 rfl rfl HO4.out HCUT.out (by rw [List.length_append, List.length_take, List.length_singleton, List.length_nil]; have := HL.out; omega) HW4.out ?_; intro v5 w5 ho5 hs5 hb5; have HO5 := Lib.hid ho5; have HS5 := Lib.hid hs5; clear ho5 hs5 hb5)
              go_ret
              exact ⟨_, rfl, by rw [HPT.out]; exact HO5.out.rebase (fun k hk => by have h1 := (HO5.out.lt k hk).1; have h2 := HSW.out; omega), stay_seal ((HT4.out.mono (Y := fun k => v2.ownBlock = some k) (fun _ x => x.elim)).trans HS5.out) (fun k hk => by have h1 := (HO4.out.lt k hk).1; have h2 := HSW.out; omega)⟩
            · have HCUT := Lib.hid (show EnS z4 (.slice (some (ad.add (L.length * 3))) 0 (c - L.length)) [] from ⟨_, _, rfl, Nat.zero_le _, by omega, (fun h => by cases h), fun h => absurd h (Nat.lt_irrefl 0)⟩)
              go_wp2_with (at_builtin; refine wpList_append_en rfl (.tmp 50) (.tmp 53) 25 rfl Try.underlying25 rfl rfl HO4.out HCUT.out (by rw [List.length_append, List.length_take, List.length_singleton, List.length_nil]; have := HL.out; omega) HW4.out ?_; intro v5 w5 ho5 hs5 hb5; have HO5 := Lib.hid ho5; have HS5 := Lib.hid hs5; clear ho5 hs5 hb5)
              go_ret
              exact ⟨_, rfl, by rw [HPT.out]; exact HO5.out.rebase (fun k hk => by have h1 := (HO5.out.lt k hk).1; have h2 := HSW.out; omega), stay_seal ((HT4.out.mono (Y := fun k => v2.ownBlock = some k) (fun _ x => x.elim)).trans HS5.out) (fun k hk => by have h1 := (HO4.out.lt k hk).1; have h2 := HSW.out; omega)⟩
          exact AllReadyH.nil
end Go.Proofs.Ytdfhjmodacjilaa.Me
