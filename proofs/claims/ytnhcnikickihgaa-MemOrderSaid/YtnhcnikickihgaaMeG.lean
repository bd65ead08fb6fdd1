/-
  mem: slices.Insert of one entry in the middle, where there is no room.
-/
import Derived.Test.YtnhcnikickihgaaMeF
import Derived.Laws.NewBlocks
namespace Go.Proofs.Ytnhcnikickihgaa.Me
open Go.RowKit Go.Maps
set_option maxRecDepth 100000
set_option linter.unusedVariables false

theorem length_zeros (k : Nat) : (Builtin.zeroCells zeroV.cells k).size = k * 3 := by
  unfold Builtin.zeroCells
  rw [Array.size_map, Array.size_range]
  rfl

set_option maxHeartbeats 4000000 in
theorem insert_grow (w : World) (b c i : Nat) (L : List En) (e : En) (g : Nat) (ho : EnO 0 w (.slice (some ⟨b, 0, none⟩) L.length c) L) (hb : Box w g e) (hi : i < L.length) (hc : c < L.length + 1) (hl : L.length ≤ 1000000) :
    Calls Try.prog 23 #[.slice (some ⟨b, 0, none⟩) L.length c, .int .i64 (i : Int), .slice (some ⟨g, 0, none⟩) 1 1] w fun x w' => ∃ v', x = .returned v' ∧ Ins w w' (.slice (some ⟨b, 0, none⟩) L.length c) v' (L.take i ++ e :: L.drop i) := by
  obtain ⟨i0, hi0, hz0, hzs, hzb⟩ := info_parts info_en
  have HB := Lib.hid hb
  have hE := ho.ens
  have hnc : L.length ≤ c := by
    obtain ⟨_, _, e0, h1, _⟩ := hE
    cases e0
    exact h1
  obtain rfl : c = L.length := by omega
  obtain ⟨b', o, e0, hbw, hcs⟩ := hE.at (by omega)
  cases e0
  have hrows : ∀ j u, (enRows L)[j]? = some u → w.cell? ⟨b, 0 + j, none⟩ = some u := enRows_all (fun i e he j u hu => by
    obtain ⟨h0, h1, h2⟩ := hcs i e he
    match j, hu with
    | 0, hu => cases hu; exact h0
    | 1, hu => cases hu; exact h1
    | 2, hu => cases hu; exact h2)
  have hold : (Builtin.firstCells i0.size i (.slice (some ⟨b, 0, none⟩) i L.length)).run Try.prog w.drew = .ok (enRows (L.take i)).toArray w.drew := by
    rw [hzs]
    exact run_firstCells_some w.drew 3 i ⟨b, 0, none⟩ i L.length (enRows (L.take i)) (by rw [length_enRows, List.length_take]; omega) (fun j v hj => by
      rw [add_at]
      rw [← enRows_take L i (by omega), List.getElem?_take] at hj
      split at hj
      · exact hrows j v hj
      · cases hj)
  obtain ⟨G, hG⟩ : ∃ G, G = grownCap w (L.length + 1) L.length 27 := ⟨_, rfl⟩
  obtain ⟨R, hR⟩ : ∃ R : List Value, R = enRows (L.take i) ++ (Builtin.zeroCells zeroV.cells (L.length + 1 - i)).toList ++ (Builtin.zeroCells zeroV.cells (G - (L.length + 1))).toList := ⟨_, rfl⟩
  have hrz : ∀ ty, (Builtin.append_ #[22, 3] ty #[.slice (some ⟨b, 0, none⟩) i L.length, .int .i64 ((L.length : Int) + 1 - (i : Int))]).run Try.prog w =
      .ok (.slice (some ⟨w.heap.size, 0, none⟩) (L.length + 1) G) (w.drew.alloc (.cells R.toArray 27)) := fun ty => by
    have h := Lib.run_append_grow_zeros w 22 3 ty 27 i0 _ .i64 .i64 Try.underlying22 Try.underlying3 hi0 hz0 (some ⟨b, 0, none⟩) i L.length (enRows (L.take i)) hold (L.length + 1 - i) (by omega) (by omega) (by omega) (by omega) (by rw [hzb]; omega) (by rw [hzb, show i + (L.length + 1 - i) = L.length + 1 by omega]; exact growslice_fits hc (by omega))
    rw [show i + (L.length + 1 - i) = L.length + 1 by omega, ← hG] at h
    rw [show (L.length : Int) + 1 - (i : Int) = ((L.length + 1 - i : Nat) : Int) by omega, h]
    congr 4
    rw [hR]
    simp
  have hGn : L.length + 1 ≤ G := by rw [hG]; exact grownCap_ge w _ _ _
  have hGm : G ≤ maxLen := by rw [hG]; exact grownCap_le_maxLen w _ _ _ (by unfold maxLen; omega)
  have hG63 : G ≤ 9223372036854775807 := by unfold maxLen at hGm; omega
  have hRl : R.length = G * 3 := by
    have hz : ∀ k, (Builtin.zeroCells zeroV.cells k).toList.length = k * 3 := fun k => by rw [Array.length_toList]; exact length_zeros k
    rw [hR, List.length_append, List.length_append, hz, hz, length_enRows, List.length_take]
    omega
  have hRt : R.take (i * 3) = enRows (L.take i) := by
    rw [hR, List.append_assoc, List.take_append_of_le_length (by rw [length_enRows, List.length_take]; omega), List.take_of_length_le (by rw [length_enRows, List.length_take]; omega)]
  obtain ⟨D, hD⟩ : ∃ D, D = enRows (L.drop i) := ⟨_, rfl⟩
  have hfin := splice_fill L R e (i := i) (by omega) hRt (by rw [hRl]; omega)
  have hdl : D.length = (L.length - i) * 3 := by rw [hD, length_enRows, List.length_drop]
  have hd1 : ∀ u ∈ D, u.oneCell' = true := by rw [hD]; exact one_enRows _
  have hsrc : ∀ j u, D[j]? = some u → w.cell? ((⟨b, i * 3, none⟩ : Addr).add j) = some u := fun j u hu => by
    rw [hD, ← enRows_drop L i (by omega), List.getElem?_drop] at hu
    rw [add_at]
    have := hrows _ u hu
    rw [Nat.zero_add] at this
    exact this
  rw [← hD] at hfin
  have H1 := heap_alloc_new w.drew (.cells R.toArray 27)
  have hs1 : Stay (fun _ => False) w (w.drew.alloc (.cells R.toArray 27)) := Stay.drew.trans (Stay.alloc _ _)
  obtain ⟨W1, hW1⟩ : ∃ W1, W1 = w.drew.alloc (.cells R.toArray 27) := ⟨_, rfl⟩
  rw [← hW1] at hrz H1 hs1
  have HG1 := Lib.hid (show W1.heap[w.heap.size]? = some (.cells R.toArray 27 (0, 0)) from H1)
  have HS1 := Lib.hid hs1
  have HRZ := Lib.hid hrz
  have HFIN := Lib.hid hfin
  have HDL := Lib.hid hdl
  have HD1 := Lib.hid hd1
  have HSRC := Lib.hid hsrc
  have HRL := Lib.hid hRl
  have HBW := Lib.hid (HB.out.stay0 hs1)
  have HBL := Lib.hid hb.lt
  have HGM := Lib.hid hGm
  have HBB := Lib.hid hbw
  have hci : ¬ L.length = i := by omega
  have hGi : ¬ G = i := by omega
  have hGi1 : ¬ G = i + 1 := by omega
  have hw1 : IntKind.i64.wrap ((i : Int) + 1) = (i : Int) + 1 := by rw [IntKind.wrap_i64]; omega
  have hb1 : (0 : Int) ≤ (i : Int) + 1 := by omega
  have htn : ((i : Int) + 1).toNat = i + 1 := by omega
  have hb3 : (i : Int) + 1 ≤ (L.length : Int) + 1 := by omega
  have hb4 : (i : Int) ≤ (L.length : Int) := by omega
  clear ho hb hE hcs hrows hold hG hR hrz hGm hRl hRt hD hfin hdl hd1 hsrc H1 hs1 hW1 hi0 hz0 hzs hzb hbw
  go_enter Try.func23, Try.ntmps23
  go_wp2_with (first
    | (at_builtin; refine Lib.wpList_append_run _ rfl _ _ _ _ rfl _ _ rfl rfl _ _ (HRZ.out _) ?_)
    | (refine wpList_copy_en rfl (.tmp 43) (.tmp 44) rfl w.heap.size (i * 3) (L.length + 1 - i) (G - i) ⟨g, 0, none⟩ 1 1 rfl rfl R (enC e) HG1.out (by show 3 = min _ _ * 3; omega) (fun j u hu => by rw [add_at, Nat.zero_add]; exact HBW.out.c hu) (by rw [HRL.out]; show i * 3 + 3 ≤ _; omega) (one_enC e) ?_; intro w2 hg2 hs2))
  have HS2 := Lib.hid (show Stay (fun k => k = w.heap.size) W1 w2 from hs2.out)
  have HR2 := Lib.hid (show (splice R (i * 3) (enC e)).length = G * 3 by rw [length_splice _ _ _ (by rw [HRL.out]; show i * 3 + 3 ≤ _; omega), HRL.out])
  have HSR2 := Lib.hid (show ∀ j u, D[j]? = some u → w2.cell? ((⟨b, i * 3, none⟩ : Addr).add j) = some u from fun j u hu => by
    have := HSRC.out j u hu
    rw [add_at] at this ⊢
    exact HS2.out.cell (HS1.out.cell this (fun x => x)) (fun (h : b = w.heap.size) => by have := HBB.out; omega))
  obtain ⟨R2, hR2⟩ : ∃ R2, R2 = splice R (i * 3) (enC e) := ⟨_, rfl⟩
  rw [← hR2] at hg2 HFIN HR2
  clear hR2 hs2
  go_region_law (refine step_copy_en rfl (.tmp 50) (.tmp 53) rfl w.heap.size ((i + 1) * 3) (L.length + 1 - (i + 1)) (G - (i + 1)) ⟨b, i * 3, none⟩ (L.length - i) (L.length - i) (by simp [Act.eval, Act.put]) (by simp [Act.eval, Act.put]) R2 D hg2.out (by rw [HDL.out]; show _ = min _ _ * 3; omega) HSR2.out (by rw [HDL.out, HR2.out]; omega) HD1.out ?_; intro w3 hg3 hs3)
  have HS3 := Lib.hid (show Stay (fun k => k = w.heap.size) w2 w3 from (Stay.drew.trans hs3.out))
  clear hs3
  go_wp2
  go_ret
  refine ⟨_, rfl, ⟨?_, ?_, .inr ⟨w.heap.size, rfl, Nat.le_refl _⟩⟩⟩
  · have hM : (L.take i ++ e :: L.drop i).length = L.length + 1 := by rw [List.length_append, List.length_cons, List.length_take, List.length_drop]; omega
    refine ⟨by rw [length_enRows], .inr ⟨w.heap.size, G, (splice R2 ((i + 1) * 3) D).toArray, by rw [hM]; rfl, Nat.zero_le _, hg3.out, by rw [hM]; omega, HGM.out, ?_, ?_⟩⟩
    · rw [List.size_toArray, length_splice _ _ _ (by rw [HDL.out, HR2.out]; omega), HR2.out]
    · rw [hM]
      exact HFIN.out
  · exact (stay_seal ((HS1.out.mono (Y := fun k => k = w.heap.size) (fun _ x => x.elim)).trans (HS2.out.trans HS3.out)) (fun k hk => by have hk' : k = w.heap.size := hk; omega)).mono (fun _ x => x.elim)

/-- One entry inserted at any place. -/
theorem insert_any (w : World) (v : Value) (i : Nat) (L : List En) (e : En) (g : Nat) (ho : EnO 0 w v L) (hb : Box w g e) (hne : v.ownBlock ≠ some g) (hi : i ≤ L.length) (hl : L.length ≤ 1000000) :
    Calls Try.prog 23 #[v, .int .i64 (i : Int), .slice (some ⟨g, 0, none⟩) 1 1] w fun x w' => ∃ v', x = .returned v' ∧ Ins w w' v v' (L.take i ++ e :: L.drop i) := by
  by_cases h : i = L.length
  · subst h
    rw [List.take_length, List.drop_length]
    exact insert_end w v L e g ho hb hl
  · rcases id ho.2 with ⟨_, e0⟩ | ⟨b, c, cur, rfl, _⟩
    · omega
    · by_cases hc : L.length + 1 ≤ c
      · exact insert_shift w b c i L e g ho hb (fun h => hne (by rw [h]; rfl)) (by omega) hc hl
      · exact insert_grow w b c i L e g ho hb (by omega) (by omega) hl
end Go.Proofs.Ytnhcnikickihgaa.Me
