/-
  mem: slices.Insert of one entry into entries of the call's own: at the end; in the middle, with room and without.
-/
import Derived.Test.YtnhcnikickihgaaMeD
namespace Go.Proofs.Ytnhcnikickihgaa.Me
open Go.RowKit Go.Maps
set_option maxRecDepth 100000
set_option linter.unusedVariables false

/-- A row shifted by one entry, and one laid in. -/
theorem splice_shift (L : List En) (R : List Value) (e : En) {i : Nat} (hi : i ≤ L.length) (hR : R.take (L.length * 3) = enRows L) (hl : (L.length + 1) * 3 ≤ R.length) :
    (splice (splice R ((i + 1) * 3) (enRows (L.drop i))) (i * 3) (enC e)).take ((L.length + 1) * 3) = enRows (L.take i ++ e :: L.drop i) := by
  have hT : R.take (i * 3) = enRows (L.take i) := by
    rw [← enRows_take L i hi, ← hR, List.take_take]
    congr 1
    omega
  have hD : (enRows (L.drop i)).length = (L.length - i) * 3 := by rw [length_enRows, List.length_drop]
  have h3 : (enC e).length = 3 := rfl
  unfold splice
  have e1 : (R.take ((i + 1) * 3) ++ (enRows (L.drop i) ++ R.drop ((i + 1) * 3 + (enRows (L.drop i)).length))).take (i * 3) = enRows (L.take i) := by
    rw [List.take_append_of_le_length (by rw [List.length_take]; omega), List.take_take, show min (i * 3) ((i + 1) * 3) = i * 3 by omega, hT]
  have e2 : (R.take ((i + 1) * 3) ++ (enRows (L.drop i) ++ R.drop ((i + 1) * 3 + (enRows (L.drop i)).length))).drop (i * 3 + (enC e).length) = enRows (L.drop i) ++ R.drop ((i + 1) * 3 + (enRows (L.drop i)).length) := by
    rw [List.drop_append, List.drop_eq_nil_of_le (by rw [List.length_take]; omega), List.nil_append, List.length_take, show i * 3 + (enC e).length - min ((i + 1) * 3) R.length = 0 by omega, List.drop_zero]
  rw [e1, e2, enRows_append, enRows_cons, ← List.append_assoc (enC e), ← List.append_assoc, List.take_append_of_le_length]
  · rw [List.take_of_length_le]
    rw [List.length_append, List.length_append, length_enRows, hD, h3, List.length_take]
    omega
  · rw [List.length_append, List.length_append, length_enRows, hD, h3, List.length_take]
    omega
/-- A row whose begin stands, one laid in behind it, and then the rest. -/
theorem splice_fill (L : List En) (R : List Value) (e : En) {i : Nat} (hi : i ≤ L.length) (hR : R.take (i * 3) = enRows (L.take i)) (hl : (L.length + 1) * 3 ≤ R.length) :
    (splice (splice R (i * 3) (enC e)) ((i + 1) * 3) (enRows (L.drop i))).take ((L.length + 1) * 3) = enRows (L.take i ++ e :: L.drop i) := by
  have hD : (enRows (L.drop i)).length = (L.length - i) * 3 := by rw [length_enRows, List.length_drop]
  have h3 : (enC e).length = 3 := rfl
  unfold splice
  have e1 : (R.take (i * 3) ++ (enC e ++ R.drop (i * 3 + (enC e).length))).take ((i + 1) * 3) = enRows (L.take i) ++ enC e := by
    rw [hR, ← List.append_assoc, List.take_append_of_le_length (by rw [List.length_append, length_enRows, h3, List.length_take]; omega), List.take_of_length_le (by rw [List.length_append, length_enRows, h3, List.length_take]; omega)]
  rw [e1, enRows_append, enRows_cons, ← List.append_assoc (enRows (L.take i) ++ enC e), List.take_append_of_le_length]
  · rw [List.take_of_length_le, List.append_assoc]
    rw [List.length_append, List.length_append, length_enRows, hD, h3, List.length_take]
    omega
  · rw [List.length_append, List.length_append, length_enRows, hD, h3, List.length_take]
    omega

theorem run_copy_en (w : World) (ty : TypeId) (g o dLen dCap : Nat) (ad : Addr) (sLen sCap : Nat) (cur : List Value) (cs : List Value)
    (hg : w.heap[g]? = some (.cells cur.toArray 27 (0, 0))) (hn : cs.length = Nat.min sLen dLen * 3)
    (hsrc : ∀ j v, cs[j]? = some v → w.cell? (ad.add j) = some v) (hfit : o + cs.length ≤ cur.length) (h1 : ∀ v ∈ cs, v.oneCell' = true) :
    (Builtin.copy_ #[22, 22] ty #[.slice (some ⟨g, o, none⟩) dLen dCap, .slice (some ad) sLen sCap]).run Try.prog w =
      .ok (goInt (Nat.min sLen dLen)) (w.setRow g (splice cur o cs).toArray) := by
  have := run_copy_sized (P := Try.prog) w 22 22 ty 27 3 g o dLen dCap ad sLen sCap cur.toArray 27 cs Try.underlying22 size_en hg hn hsrc (by simpa using hfit) h1
  simpa using this
section
variable {w : World} {o : Oper} {a : Act} {Q : Exit → Act → World → Prop} {ops : Array Oper}
theorem wpList_copy_en {rest : List Oper} (hgd : o.guard = none) (d s : Operand) (ho : o.op = .call { callee := .builtin .copy, args := #[d, s], argTypes := #[22, 22] })
    (g off dLen dCap : Nat) (ad : Addr) (sLen sCap : Nat) (hd : a.eval d = .slice (some ⟨g, off, none⟩) dLen dCap) (hs : a.eval s = .slice (some ad) sLen sCap) (cur cs : List Value)
    (hg : w.heap[g]? = some (.cells cur.toArray 27 (0, 0))) (hn : cs.length = Nat.min sLen dLen * 3)
    (hsrc : ∀ j v, cs[j]? = some v → w.cell? (ad.add j) = some v) (hfit : off + cs.length ≤ cur.length) (h1 : ∀ v ∈ cs, v.oneCell' = true)
    (h : ∀ w', Hid (w'.heap[g]? = some (.cells (splice cur off cs).toArray 27 (0, 0))) → Hid (Stay (· = g) w w') → wpList Try.prog ops Q rest (a.put o.dst (goInt (Nat.min sLen dLen))) w') : wpList Try.prog ops Q (o :: rest) a w :=
  wpList_plain hgd fun _ hK => by
    have hrun := run_copy_en w o.type g off dLen dCap ad sLen sCap cur cs hg hn hsrc hfit h1
    unfold Oper.wp execOp
    simp only [ho, resolve, invoke, builtin, Sem.run_bind, Sem.run_pure, Result.andThen_ok, List.map_toArray, List.map_cons, List.map_nil, hd, hs, hrun]
    exact hK _ _ (h _ (show _ = _ from setRow_heap w g _ _ _ _ hg) (Stay.setRow (X := fun k => k = g) w g _ rfl))
theorem step_copy_en {K : Act → World → Prop} {E : Prop} (hgd : o.guard = none) (d s : Operand) (ho : o.op = .call { callee := .builtin .copy, args := #[d, s], argTypes := #[22, 22] })
    (g off dLen dCap : Nat) (ad : Addr) (sLen sCap : Nat) (hd : a.eval d = .slice (some ⟨g, off, none⟩) dLen dCap) (hs : a.eval s = .slice (some ad) sLen sCap) (cur cs : List Value)
    (hg : w.heap[g]? = some (.cells cur.toArray 27 (0, 0))) (hn : cs.length = Nat.min sLen dLen * 3)
    (hsrc : ∀ j v, cs[j]? = some v → w.cell? (ad.add j) = some v) (hfit : off + cs.length ≤ cur.length) (h1 : ∀ v ∈ cs, v.oneCell' = true)
    (h : ∀ w', Hid (w'.heap[g]? = some (.cells (splice cur off cs).toArray 27 (0, 0))) → Hid (Stay (· = g) w w') → K (a.put o.dst (goInt (Nat.min sLen dLen))) w') : if Region.wanted o (yielded ops a.tmps) = true then Oper.wp Try.prog o a w K Q else E := by
  have hw : Region.wanted o (yielded ops a.tmps) = true := by simp [Region.wanted, hgd]
  rw [if_pos hw]
  have hrun := run_copy_en w o.type g off dLen dCap ad sLen sCap cur cs hg hn hsrc hfit h1
  unfold Oper.wp execOp
  simp only [ho, resolve, invoke, builtin, Sem.run_bind, Sem.run_pure, Result.andThen_ok, List.map_toArray, List.map_cons, List.map_nil, hd, hs, hrun]
  exact h _ (show _ = _ from setRow_heap w g _ _ _ _ hg) (Stay.setRow (X := fun k => k = g) w g _ rfl)
end

theorem shape_row {w : World} {g : Nat} {cs : Array Value} {t : TypeId} {fr : Nat × Nat} (h : w.heap[g]? = some (.cells cs t fr)) : w.shape? g = some (t, cs.size) := by
  unfold World.shape?
  rw [h]

/-- What Insert hands out. -/
structure Ins (w w' : World) (v v' : Value) (M : List En) : Prop where
  own : EnO 0 w' v' M
  stay : Stay (fun k => v.ownBlock = some k) w w'
  blk : v'.ownBlock = v.ownBlock ∨ ∃ k, v'.ownBlock = some k ∧ w.heap.size ≤ k

set_option maxHeartbeats 4000000 in
theorem insert_end (w : World) (v : Value) (L : List En) (e : En) (g : Nat) (ho : EnO 0 w v L) (hb : Box w g e) (hl : L.length ≤ 1000000) :
    Calls Try.prog 23 #[v, .int .i64 (L.length : Int), .slice (some ⟨g, 0, none⟩) 1 1] w fun x w' => ∃ v', x = .returned v' ∧ Ins w w' v v' (L ++ [e]) := by
  have HO := Lib.hid ho
  have HB := Lib.hid hb
  obtain ⟨a0, c, rfl, hnc, hcm, hn, _⟩ := ho.ens
  clear ho hb
  cases a0 with
  | none =>
    obtain rfl := hn rfl
    have hL : L = [] := List.eq_nil_of_length_eq_zero (by omega)
    subst hL
    go_enter Try.func23, Try.ntmps23
    go_wp2_with (at_builtin; refine wpList_append_en rfl (.tmp 23) (.tmp 24) 22 rfl Try.underlying22 rfl rfl HO.out (HB.out.one 1 (by decide) (by decide)) (by simp) (Nat.zero_le _) ?_; intro v' w1 hown hgr hnn)
    have HI := Lib.hid (show Ins w w1 (.slice none 0 0) v' ([] ++ [e]) from ⟨hown, hgr, hnn.imp id (fun h => ⟨_, h, Nat.le_refl _⟩)⟩)
    clear hown hgr hnn
    go_wp2
    go_ret
    exact ⟨_, rfl, HI.out⟩
  | some ad =>
    clear hn
    by_cases hc : c = L.length
    · subst hc
      go_enter Try.func23, Try.ntmps23
      go_wp2_with (at_builtin; refine wpList_append_en rfl (.tmp 23) (.tmp 24) 22 rfl Try.underlying22 rfl rfl HO.out (HB.out.one 1 (by decide) (by decide)) (by simp; omega) (Nat.zero_le _) ?_; intro v' w1 hown hgr hnn; have HI := Lib.hid (Ins.mk (M := L ++ [e]) hown hgr (hnn.imp id (fun h => ⟨_, h, Nat.le_refl _⟩))); clear hown hgr hnn)
      go_ret
      exact ⟨_, rfl, HI.out⟩
    · go_enter Try.func23, Try.ntmps23
      go_wp2_with (at_builtin; refine wpList_append_en rfl (.tmp 23) (.tmp 24) 22 rfl Try.underlying22 rfl rfl HO.out (HB.out.one 1 (by decide) (by decide)) (by simp; omega) (Nat.zero_le _) ?_; intro v' w1 hown hgr hnn; have HI := Lib.hid (Ins.mk (M := L ++ [e]) hown hgr (hnn.imp id (fun h => ⟨_, h, Nat.le_refl _⟩))); clear hown hgr hnn)
      go_ret
      exact ⟨_, rfl, HI.out⟩

set_option maxHeartbeats 4000000 in
/-- In the middle, where there is room: all that stands behind goes one place up. -/
theorem insert_shift (w : World) (b c i : Nat) (L : List En) (e : En) (g : Nat) (ho : EnO 0 w (.slice (some ⟨b, 0, none⟩) L.length c) L) (hb : Box w g e) (hne : b ≠ g) (hi : i < L.length) (hc : L.length + 1 ≤ c) (hl : L.length ≤ 1000000) :
    Calls Try.prog 23 #[.slice (some ⟨b, 0, none⟩) L.length c, .int .i64 (i : Int), .slice (some ⟨g, 0, none⟩) 1 1] w fun x w' => ∃ v', x = .returned v' ∧ Ins w w' (.slice (some ⟨b, 0, none⟩) L.length c) v' (L.take i ++ e :: L.drop i) := by
  have HO := Lib.hid ho
  have HB := Lib.hid hb
  rcases ho.2 with ⟨e0, _⟩ | ⟨b', cap, cur, e0, _, hg, hnc, hcm, hcs, hct⟩
  · cases e0
  cases e0
  have hcl : cur.toList.length = c * 3 := by rw [Array.length_toList]; exact hcs
  obtain ⟨R, hR⟩ : ∃ R, R = cur.toList := ⟨_, rfl⟩
  have hg' : w.heap[b]? = some (.cells R.toArray 27 (0, 0)) := by rw [hR]; simpa using hg
  rw [← hR] at hcl hct
  have hov : ∀ lb cb, (callFunc 29 #[.slice (some ⟨g, 0, none⟩) 1 1, .slice (some ⟨b, (i + 1) * 3, none⟩) lb cb]).run Try.prog w = .ok (.value (.bool false)) w := fun lb cb => by
    rw [run_callFunc_extern Try.func29 (by kernel_rfl) (by kernel_rfl) (by kernel_rfl) (e := Extern.SlicesOverlaps.overlaps #[22, 22] #[4]) (by kernel_rfl),
      Lib.run_overlaps_apart w 22 4 27 Try.underlying22 3 sizeOf_en ⟨g, 0, none⟩ ⟨b, (i + 1) * 3, none⟩ 1 1 lb cb (fun e => hne e.symm) 27 27 3 R.length (shape_row hb) (by rw [shape_row hg', List.size_toArray]) (by omega) (hb.fr 0) (hb.fr 3)]
    rfl
  have HG := Lib.hid hg'
  have HCL := Lib.hid hcl
  have HCT := Lib.hid hct
  have hcc : c ≤ 9223372036854775807 := by unfold maxLen at hcm; omega
  have HSRC := Lib.hid (show ∀ j u, (enRows (L.drop i))[j]? = some u → w.cell? ((⟨b, i * 3, none⟩ : Addr).add j) = some u from fun j u hu => by
    have hj := (List.getElem?_eq_some_iff.1 hu).1
    rw [length_enRows, List.length_drop] at hj
    rw [add_at, cell_of_row w b _ _ _ _ hg', List.getElem?_toArray]
    rw [← enRows_drop L i (by omega), ← hct, List.getElem?_drop, List.getElem?_take] at hu
    split at hu
    · exact hu
    · cases hu)
  have HDL := Lib.hid (show (enRows (L.drop i)).length = (L.length - i) * 3 by rw [length_enRows, List.length_drop])
  have HFIN := Lib.hid (splice_shift L R e (i := i) (by omega) hct (by rw [hcl]; omega))
  have hci : ¬ c = i := by omega
  have hci1 : ¬ c = i + 1 := by omega
  have hw1 : IntKind.i64.wrap ((i : Int) + 1) = (i : Int) + 1 := by rw [IntKind.wrap_i64]; omega
  have hb1 : (0 : Int) ≤ (i : Int) + 1 := by omega
  have htn : ((i : Int) + 1).toNat = i + 1 := by omega
  have hb3 : (i : Int) + 1 ≤ (L.length : Int) + 1 := by omega
  have hb4 : (i : Int) ≤ (L.length : Int) + 1 := by omega
  have HB1 := Lib.hid (fun j u (hu : (enC e)[j]? = some u) => hb.c hu)
  obtain ⟨D, hD⟩ : ∃ D, D = enRows (L.drop i) := ⟨_, rfl⟩
  have HD1 := Lib.hid (show ∀ u ∈ D, u.oneCell' = true by rw [hD]; exact one_enRows _)
  rw [← hD] at HSRC HDL HFIN
  clear hg hg' hR hcl hct hcs ho hb hD hcm
  go_enter Try.func23, Try.ntmps23
  go_wp2_with (simp only [hov])
  go_region_law (refine step_copy_en rfl (.tmp 73) (.tmp 76) rfl b ((i + 1) * 3) (L.length + 1 - (i + 1)) (c - (i + 1)) ⟨b, i * 3, none⟩ (L.length + 1 - i) (c - i) (by simp [Act.eval, Act.put]) (by simp [Act.eval, Act.put]) R D HG.out (by rw [HDL.out]; show _ = min _ _ * 3; omega) HSRC.out (by rw [HDL.out, HCL.out]; omega) HD1.out ?_; intro w1 hg1 hs1)
  have hR1 : (splice R ((i + 1) * 3) D).length = c * 3 := by rw [length_splice _ _ _ (by rw [HDL.out, HCL.out]; omega), HCL.out]
  have HR1 := Lib.hid hR1
  have HS1 := Lib.hid (show Stay (fun k => k = b) w w1 from Stay.drew.trans hs1.out)
  have HBW := Lib.hid (show Box w1 g e from HB.out.stay HS1.out (fun (h : g = b) => hne h.symm))
  clear hR1
  obtain ⟨R1, hR1⟩ : ∃ R1, R1 = splice R ((i + 1) * 3) D := ⟨_, rfl⟩
  rw [← hR1] at hg1 HFIN HR1
  clear hR1
  go_wp2_with (refine wpList_copy_en rfl (.tmp 80) (.tmp 81) rfl b (i * 3) (L.length + 1 - i) (c - i) ⟨g, 0, none⟩ 1 1 rfl rfl R1 (enC e) hg1.out (by show 3 = min _ _ * 3; omega) (fun j u hu => by rw [add_at, Nat.zero_add]; exact HBW.out.c hu) (by rw [HR1.out]; show i * 3 + 3 ≤ _; omega) (one_enC e) ?_; intro w2 hg2 hs2)
  go_ret
  refine ⟨_, rfl, ⟨?_, ?_, .inl rfl⟩⟩
  · have hM : (L.take i ++ e :: L.drop i).length = L.length + 1 := by rw [List.length_append, List.length_cons, List.length_take, List.length_drop]; omega
    refine ⟨by rw [length_enRows], .inr ⟨b, c, (splice R1 (i * 3) (enC e)).toArray, by rw [hM]; rfl, Nat.zero_le _, hg2.out, by rw [hM]; omega, by unfold maxLen; omega, ?_, ?_⟩⟩
    · rw [List.size_toArray, length_splice _ _ _ (by rw [HR1.out]; show i * 3 + 3 ≤ _; omega), HR1.out]
    · rw [hM]
      exact HFIN.out
  · have h1 := HS1.out
    have h2 : Stay (fun k => k = b) w1 w2 := hs2.out
    exact (h1.trans h2).mono (fun k hk => by rw [hk]; rfl)
end Go.Proofs.Ytnhcnikickihgaa.Me
