/-
  mem: an entry laid in.
-/
import Derived.Test.YtnhcnikickihgaaMeG
import Derived.Great.BuildSlice
namespace Go.Proofs.Ytnhcnikickihgaa.Me
open Go.RowKit Go.Maps
set_option maxRecDepth 100000
set_option linter.unusedVariables false

theorem put_nil (w : World) (e : En) : Calls Try.prog 8 #[.pointer none, enV e] w fun x w' => x = .returned (.tuple #[]) ∧ Stay (fun _ => False) w w' := by
  have H2 := Lib.hid (show Stay (fun _ => False) w (w.alloc (.cells (enC e).toArray 27)) from Stay.alloc _ _)
  unfold enV enC at *
  go_enter Try.func8, Try.ntmps8
  go_wp2
  exact bodyPost_ret (results_none rfl _ _ _) rfl ⟨rfl, H2.out⟩

/-- What turned of a Mem: its block, or its entries'. -/
def Own (p : Nat) (v : Value) (k : Nat) : Prop := k = p ∨ v.ownBlock = some k

/-- What Put leaves. -/
structure Putd (B : Nat → Prop) (w w' : World) (p : Nat) (M : List En) : Prop where
  m : MAt (fun k => B k ∨ w.heap.size ≤ k) w' p M
  s : Stay B w w'

theorem splice_put (L : List En) (R : List Value) (e : En) {i : Nat} (hi : i < L.length) (hR : R.take (L.length * 3) = enRows L) :
    (splice R (i * 3) (enC e)).take (L.length * 3) = enRows (L.take i ++ e :: L.drop (i + 1)) := by
  have h3 : (enC e).length = 3 := rfl
  have hl := length_enRows L
  obtain ⟨T, hT⟩ : ∃ T, R = enRows L ++ T := ⟨R.drop (L.length * 3), by rw [← hR, List.take_append_drop]⟩
  subst hT
  have e1 : splice (enRows L ++ T) (i * 3) (enC e) = enRows (L.take i ++ e :: L.drop (i + 1)) ++ T := by
    unfold splice
    rw [List.take_append_of_le_length (by omega), enRows_take L i (by omega), h3, show i * 3 + 3 = (i + 1) * 3 by omega, List.drop_append_of_le_length (by omega), enRows_drop L (i + 1) (by omega), enRows_append, enRows_cons]
    simp only [List.append_assoc]
  have e2 : (enRows (L.take i ++ e :: L.drop (i + 1))).length = L.length * 3 := by
    rw [length_enRows, List.length_append, List.length_cons, List.length_take, List.length_drop]
    omega
  rw [e1, List.take_append_of_le_length (by omega), List.take_of_length_le (by omega)]
theorem run_store_en {w : World} {b o : Nat} {S : List Value} {e : En} (hg : w.heap[b]? = some (.cells S.toArray 27 (0, 0))) (hf : o + 3 ≤ S.length) :
    (storeVar 27 ⟨b, o, none⟩ (enV e)).run Try.prog w = .ok () (w.setRow b (splice S o (enC e)).toArray) :=
  run_storeVar_mid (P := Try.prog) w b o 27 27 S (enC e) hg size_en hf (one_enC e)

theorem step_load_run {P : Program} {ops : Array Oper} {Q : Exit → Act → World → Prop} {o : Oper} {a : Act} {w : World} {K : Act → World → Prop} {E : Prop} (hw : Region.wanted o (yielded ops a.tmps) = true) (ty : TypeId) (x : Operand) (ho : o.op = .load ty x) (ad : Addr) (hx : a.eval x = .pointer (some ad)) (v : Value)
    (hl : (loadVar ty ad).run P w = .ok v w) (h : K (a.put o.dst v) w) : if Region.wanted o (yielded ops a.tmps) = true then Oper.wp P o a w K Q else E := by
  rw [if_pos hw]
  unfold Oper.wp execOp
  simp only [ho, hx, Instr.loadAt, Instr.sureAddr, Sem.run_bind, Sem.run_pure, Result.andThen_ok, hl]
  exact h
/-- A slice of one entry, made. -/
theorem step_one_en {ops : Array Oper} {Q : Exit → Act → World → Prop} {o : Oper} {a : Act} {w : World} {K : Act → World → Prop} {E : Prop} (hw : Region.wanted o (yielded ops a.tmps) = true) (x : Operand) (ho : o.op = .buildSlice 22 1 #[(0, x)]) (e : En) (hx : a.eval x = enV e)
    (h : K (a.put o.dst (.slice (some ⟨w.heap.size, 0, none⟩) 1 1)) (w.alloc (.cells (enC e).toArray 27))) : if Region.wanted o (yielded ops a.tmps) = true then Oper.wp Try.prog o a w K Q else E := by
  obtain ⟨i0, hi0, hz0, hzs, hzb⟩ := info_parts info_en
  rw [if_pos hw]
  refine wp_buildSlice 22 27 1 #[(0, x)] ho (enC e).toArray i0 zeroV Try.underlying22 hi0 hz0 (by rw [hzs]; decide) (by rw [hzs]; decide) ?_ h
  rw [hzs]
  simp only [List.map_toArray, List.map_cons, List.map_nil, hx]
  simp [Instr.fill, enV, enC, zeroV, Value.cells, Array.range]
  apply Array.ext_getElem?
  intro j
  match j with
  | 0 => simp
  | 1 => simp
  | 2 => simp
  | j + 3 => simp
theorem run_load_slice {w : World} {p : Nat} {v : Value} (hc : w.cell? ⟨p, 0, none⟩ = some v) : (loadVar 22 ⟨p, 0, none⟩).run Try.prog w = .ok v w := by
  have hu := run_underlying (P := Try.prog) Try.underlying22 w
  simp [loadVar, isAgg, hu]
  rw [hc]

set_option maxHeartbeats 4000000 in
theorem put_any {B : Nat → Prop} (w : World) (p : Nat) (L : List En) (e : En) (h : MAt B w p L) (hl : L.length ≤ 1000) :
    Calls Try.prog 8 #[.pointer (some ⟨p, 0, none⟩), enV e] w fun x w' => x = .returned (.tuple #[]) ∧ Putd B w w' p (putL L e) := by
  have H := Lib.hid h
  have hs0 : Stay (fun _ => False) w (w.alloc (.cells (enC e).toArray 27)) := Stay.alloc _ _
  have hb0 := Box.new w e
  have hz0 : (w.alloc (.cells (enC e).toArray 27)).heap.size = w.heap.size + 1 := by simp
  obtain ⟨w0, hw0⟩ : ∃ w0, w.alloc (.cells (enC e).toArray 27) = w0 := ⟨_, rfl⟩
  rw [hw0] at hs0 hb0 hz0
  have W0 := Lib.hid hw0
  have HS0 := Lib.hid hs0
  have HB0 := Lib.hid hb0
  have c0 := hb0.c (j := 0) rfl
  have c1 := hb0.c (j := 1) rfl
  have c2 := hb0.c (j := 2) rfl
  have f1 := hb0.fr 1
  have HPL := Lib.hid h.lt
  have HL := Lib.hid hl
  have HZ0 := Lib.hid hz0
  clear h hw0 hs0 hb0 hz0 hl
  unfold enV enC
  unfold enC at W0
  go_enter Try.func8, Try.ntmps8
  cases hg : e.g with
  | false =>
    have hbx : Box w0 w.heap.size (norm e) := by
      unfold norm
      rw [if_neg (by rw [hg]; decide)]
      exact HB0.out
    have hst : Stay (fun _ => False) w w0 := HS0.out
    have hsz : w0.heap.size = w.heap.size + 1 := HZ0.out
    rw [hg] at c2 W0
    go_wp2_with (rw [W0.out])
    obtain ⟨wb, rfl⟩ : ∃ wb, wb = w0 := ⟨_, rfl⟩
    have HBX := Lib.hid hbx
    have HST := Lib.hid hst
    have HSZ := Lib.hid hsz
    have HM := Lib.hid (H.out.stay0 hst)
    clear hbx hst hsz c0 c1 c2 f1 W0 HS0 HB0
    refine (place_any wb _ L e.k HM.out.mr HM.out.srt (by have := HL.out; omega)).mono ?_
    rintro x w1 ⟨rfl, s1⟩
    have HX1 := Lib.hid (HBX.out.stay0 s1)
    have HT1 := Lib.hid (HST.out.trans s1)
    have hm1 := HM.out.stay0 s1
    have HM1 := Lib.hid hm1
    have HZ1 := Lib.hid (show w.heap.size + 1 ≤ w1.heap.size by have := s1.size; have := HSZ.out; omega)
    obtain ⟨v, hp, ho, hbl⟩ := hm1.ex
    have HP := Lib.hid hp
    have HO := Lib.hid ho
    have HBL := Lib.hid hbl
    clear hm1 s1 HBX HST HM HSZ
    cases hhas : hasB L e.k with
    | true =>
      have hlt := hasB_lt hhas
      rcases id ho.2 with ⟨_, e0⟩ | ⟨b, c, cur, rfl, _, hgb, hnc, hcm, hcs, hct⟩
      · omega
      obtain ⟨R, hR⟩ : ∃ R, R = cur.toList := ⟨_, rfl⟩
      have hg' : w1.heap[b]? = some (.cells R.toArray 27 (0, 0)) := by rw [hR]; simpa using hgb
      have hRl : R.length = c * 3 := by rw [hR, Array.length_toList]; exact hcs
      rw [← hR] at hct
      have hcc : c ≤ 9223372036854775807 := by unfold maxLen at hcm; omega
      have hbp : b ≠ p := (hbl b rfl).2
      have hbB := (hbl b rfl).1
      have hbg : b ≠ w.heap.size := by
        have h1 := (H.out.stay0 HT1.out)
        obtain ⟨v2, h2, h3, h4⟩ := H.out.ex
        have h5 := (HT1.out.block p HPL.out (fun x => x)).trans h2
        rw [hp] at h5
        cases h5
        have := (h3.lt b rfl).2
        omega
      have HK := Lib.hid (show ∀ W, Stay (fun k => k = b) w1.drew W → W.cell? ⟨p, 0, none⟩ = some (.slice (some ⟨b, 0, none⟩) L.length c) from fun W hW => hW.cell (by show w1.cell? _ = _; rw [cell_of_row w1 p 0 _ _ _ HP.out]; rfl) (fun (h : p = b) => hbp h.symm))
      have HX := Lib.hid (show ∀ W, Stay (fun k => k = b) w1.drew W → Box W w.heap.size (norm e) from fun W hW => (show Box w1.drew w.heap.size (norm e) from HX1.out).stay hW (fun (h : w.heap.size = b) => hbg h.symm))
      have HRUN := Lib.hid (run_store_en (w := w1.drew) (o := posN L e.k * 3) (e := norm e) hg' (by rw [hRl]; omega))
      have hsS : Stay (fun k => k = b) w1 (w1.drew.setRow b (splice R (posN L e.k * 3) (enC (norm e))).toArray) := Stay.drew.trans (Stay.setRow _ _ _ rfl)
      have hput : putL L e = L.take (posN L e.k) ++ norm e :: L.drop (posN L e.k + 1) := by unfold putL; rw [hhas]; rfl
      have hlen : (putL L e).length = L.length := by rw [length_putL, if_pos hhas]
      have HPUT := Lib.hid (show Putd B w (w1.drew.setRow b (splice R (posN L e.k * 3) (enC (norm e))).toArray) p (putL L e) from
        ⟨⟨⟨.slice (some ⟨b, 0, none⟩) L.length c, (hsS.block p (Array.getElem?_eq_some_iff.1 HP.out).1 (fun (h : p = b) => hbp h.symm)).trans HP.out, by
            refine ⟨by rw [length_enRows], .inr ⟨b, c, (splice R (posN L e.k * 3) (enC (norm e))).toArray, by rw [hlen], Nat.zero_le _, setRow_heap w1.drew b _ _ _ _ hg', by rw [hlen]; exact hnc, hcm, ?_, ?_⟩⟩
            · rw [List.size_toArray, length_splice _ _ _ (by show _ * 3 + 3 ≤ _; omega), hRl]
            · rw [hlen, hput]
              exact splice_put L R (norm e) hlt hct, fun k hk => ⟨.inl (by cases hk; exact hbB), by cases hk; exact hbp⟩⟩, .inl H.out.bp, sorted_put H.out.srt e⟩,
         ⟨by rw [hsS.os, HT1.out.os], by rw [hsS.tape, HT1.out.tape], by rw [hsS.output, HT1.out.output], Nat.le_trans HT1.out.size hsS.size, fun k hk hB => (hsS.block k (Nat.lt_of_lt_of_le hk HT1.out.size) (fun (h : k = b) => hB (h ▸ hbB))).trans (HT1.out.block k hk (fun x => x))⟩⟩)
      clear hp ho hbl hgb hcm hcs hct hR hg' hRl hbg hsS hput hlen hhas hbB
      generalize posN L e.k = i at *
      go_wp2
      refine wp_region_held (S := Stay (fun k => k = b) w1.drew) (by kernel_rfl) ?_
      change wpAnyH _ _ _ _ _ _ _ _ (World.drew _)
      refine wpAnyH_takeL (i := 0) (v := .pointer (some ⟨p, 0, none⟩)) #[true, false, false, false, false, false, false, false] rfl (by kernel_rfl) (by kernel_rfl) (by kernel_rfl) (fun _ _ _ h => h) (by kernel_rfl) (Stay.refl _ _) (Or.inl ⟨by rfl, fun W hW => ?_⟩) ?_
      · go_simp
      conv => arg 8; simp [Act.put]
      refine wpAnyH_takeL (i := 1) (v := .pointer (some ⟨p, 0, none⟩)) #[true, true, false, false, false, false, false, false] rfl (by kernel_rfl) (by kernel_rfl) (by kernel_rfl) (fun _ _ _ h => h) (by kernel_rfl) (Stay.refl _ _) (Or.inl ⟨by rfl, fun W hW => ?_⟩) ?_
      · go_simp
      conv => arg 8; simp [Act.put]
      refine wpAnyH_takeL (i := 2) (v := .pointer (some ⟨p, 0, none⟩)) #[true, true, true, false, false, false, false, false] rfl (by kernel_rfl) (by kernel_rfl) (by kernel_rfl) (fun _ _ _ h => h) (by kernel_rfl) (Stay.refl _ _) (Or.inl ⟨by rfl, fun W hW => ?_⟩) ?_
      · go_simp
      conv => arg 8; simp [Act.put]
      refine wpAnyH_takeL (i := 3) (v := .slice (some ⟨b, 0, none⟩) L.length c) #[true, true, true, true, false, false, false, false] rfl (by kernel_rfl) (by kernel_rfl) (by kernel_rfl) (fun _ _ _ h => h) (by kernel_rfl) (Stay.refl _ _) (Or.inl ⟨by rfl, fun W hW => ?_⟩) ?_
      · have hc := HK.out W hW
        go_simp
      conv => arg 8; simp [Act.put]
      refine wpAnyH_takeL (i := 4) (v := .int .i64 (i : Int)) #[true, true, true, true, true, false, false, false] rfl (by kernel_rfl) (by kernel_rfl) (by kernel_rfl) (fun _ _ _ h => h) (by kernel_rfl) (Stay.refl _ _) (Or.inl ⟨by rfl, fun W hW => ?_⟩) ?_
      · go_simp
      conv => arg 8; simp [Act.put]
      refine wpAnyH_takeL (i := 5) #[true, true, true, true, true, true, false, false] rfl (by kernel_rfl) (by kernel_rfl) (by kernel_rfl) (fun _ _ _ h => h) (by kernel_rfl) (Stay.refl _ _) (yieldsIf_load rfl 27 (.tmp 3) rfl ⟨w.heap.size, 0, none⟩ rfl _ (fun W hW => (HX.out W hW).run_load)) ?_
      conv => arg 8; simp [Act.put]
      refine wpAnyH_takeL (i := 6) (v := .pointer (some ⟨b, i * 3, none⟩)) #[true, true, true, true, true, true, true, false] rfl (by kernel_rfl) (by kernel_rfl) (by kernel_rfl) (fun _ _ _ h => h) (by kernel_rfl) (Stay.refl _ _) (Or.inl ⟨by rfl, fun W hW => ?_⟩) ?_
      · go_simp
      conv => arg 8; simp [Act.put]
      refine wpAnyH_one #[true, true, true, true, true, true, true, true] (i := 7) rfl (by kernel_rfl) (by kernel_rfl) (fun K hK => ?_)
      refine step_store_run rfl 27 (.tmp 25) (.tmp 24) rfl ⟨b, i * 3, none⟩ rfl _ rfl _ HRUN.out ?_
      refine hK _ _ (Stay.setRow _ _ _ rfl) ?_
      clear hK
      conv => arg 8; simp [Act.put]
      refine wpAnyH_done (by kernel_rfl) ?_ _
      go_wp2
      refine bodyPost_ret (results_none rfl _ _ _) rfl ⟨rfl, HPUT.out⟩
    | false =>
      clear hp ho hbl
      have hc : w1.cell? ⟨p, 0, none⟩ = some v := by rw [cell_of_row w1 p 0 _ _ _ HP.out]; rfl
      have hle := posN_le e.k L
      have hput : putL L e = L.take (posN L e.k) ++ norm e :: L.drop (posN L e.k) := by unfold putL; rw [hhas]; rfl
      obtain ⟨wa, hwa⟩ : ∃ wa, w1.drew.alloc (.cells (enC (norm e)).toArray 27) = wa := ⟨_, rfl⟩
      have hsa : Stay (fun _ => False) w1.drew wa := hwa ▸ Stay.alloc _ _
      have hba : Box wa w1.heap.size (norm e) := by rw [← hwa]; exact Box.new w1.drew (norm e)
      have WA := Lib.hid hwa
      have HSA := Lib.hid hsa
      have HBA := Lib.hid hba
      have HOA := Lib.hid (show EnO 0 wa v L from HO.out.stay0 (Stay.drew.trans hsa))
      have HNE := Lib.hid (show v.ownBlock ≠ some w1.heap.size from fun h => by have := (HO.out.lt _ h).2; omega)
      have HC := Lib.hid (show w1.drew.cell? ⟨p, 0, none⟩ = some v from hc)
      have HCA := Lib.hid (hsa.cell (show w1.drew.cell? ⟨p, 0, none⟩ = some v from hc) (fun x => x))
      have HX := Lib.hid (show ∀ W, Stay (Own p v) w1.drew W → Box W w.heap.size (norm e) from fun W hW => (show Box w1.drew w.heap.size (norm e) from HX1.out).stay hW (fun h => by
        rcases h with h | h
        · have := HPL.out; omega
        · obtain ⟨v2, h2, h3, h4⟩ := H.out.ex
          have h5 := (HT1.out.block p HPL.out (fun x => x)).trans h2
          rw [HP.out] at h5
          cases h5
          have := (h3.lt _ h).2
          omega))
      have hins := insert_any wa v (posN L e.k) L (norm e) w1.heap.size HOA.out HBA.out HNE.out hle (by have := HL.out; omega)
      obtain ⟨M, hM⟩ : ∃ M, M = L.take (posN L e.k) ++ norm e :: L.drop (posN L e.k) := ⟨_, rfl⟩
      rw [← hM] at hput hins
      have HINS := Lib.hid hins
      have HFIN := Lib.hid (show ∀ w2 v', Ins wa w2 v v' M → w2.heap[p]? = some (.cells #[v] 43 (0, 0)) → Putd B w (w2.setCell ⟨p, 0, none⟩ v') p (putL L e) from fun w2 v' hI hp2 => by
        have hpv : v'.ownBlock ≠ some p := fun h => by
          rcases hI.blk with h1 | ⟨k, h1, h2⟩
          · rw [h1] at h
            exact (HBL.out p h).2 rfl
          · rw [h1] at h
            cases h
            have := hsa.size
            have h3 := (Array.getElem?_eq_some_iff.1 HP.out).1
            have h4 : w1.drew.heap.size = w1.heap.size := rfl
            omega
        have hS : Stay (Own p v) w1 (w2.setCell ⟨p, 0, none⟩ v') := ((Stay.drew.trans hsa).mono (fun _ x => x.elim)).trans ((hI.stay.mono (fun k hk => Or.inr hk)).trans (Stay.setCell _ _ _ (Or.inl rfl)))
        refine ⟨⟨⟨v', heap_setCell_same w2 p 0 _ _ _ hp2, ?_, fun k hk => ⟨?_, fun h => hpv (h ▸ hk)⟩⟩, .inl H.out.bp, sorted_put H.out.srt e⟩, ?_⟩
        · rw [hput]
          exact hI.own.stay (Stay.setCell (X := fun k => k = p) _ _ _ rfl) (fun k hk h => hpv (h ▸ hk))
        · rcases hI.blk with h1 | ⟨j, h1, h2⟩
          · exact .inl (HBL.out k (h1 ▸ hk)).1
          · rw [h1] at hk
            cases hk
            have h3 := hsa.size
            have h4 : w1.drew.heap.size = w1.heap.size := rfl
            have := HZ1.out
            exact .inr (by omega)
        · refine ⟨hS.os.trans HT1.out.os, hS.tape.trans HT1.out.tape, hS.output.trans HT1.out.output, Nat.le_trans HT1.out.size hS.size, fun k hk hB => (hS.block k (Nat.lt_of_lt_of_le hk HT1.out.size) (fun h => ?_)).trans (HT1.out.block k hk (fun x => x))⟩
          rcases h with h | h
          · exact hB (h ▸ H.out.bp)
          · exact hB (HBL.out k h).1)
      clear hput hwa hsa hba hc hhas hins hM
      generalize posN L e.k = i at *
      go_wp2
      refine wp_region_held (S := Stay (Own p v) w1.drew) (by kernel_rfl) ?_
      change wpAnyH _ _ _ _ _ _ _ _ (World.drew _)
      refine wpAnyH_takeL (i := 0) (v := .pointer (some ⟨p, 0, none⟩)) #[true, false, false, false, false, false, false, false, false, false, false, false] rfl (by kernel_rfl) (by kernel_rfl) (by kernel_rfl) (fun _ _ _ h => h) (by kernel_rfl) (Stay.refl _ _) (Or.inl ⟨by rfl, fun W hW => ?_⟩) ?_
      · go_simp
      conv => arg 8; simp [Act.put]
      refine wpAnyH_takeL (i := 1) (v := .pointer (some ⟨p, 0, none⟩)) #[true, true, false, false, false, false, false, false, false, false, false, false] rfl (by kernel_rfl) (by kernel_rfl) (by kernel_rfl) (fun _ _ _ h => h) (by kernel_rfl) (Stay.refl _ _) (Or.inl ⟨by rfl, fun W hW => ?_⟩) ?_
      · go_simp
      conv => arg 8; simp [Act.put]
      refine wpAnyH_takeL (i := 2) (v := .pointer (some ⟨p, 0, none⟩)) #[true, true, true, false, false, false, false, false, false, false, false, false] rfl (by kernel_rfl) (by kernel_rfl) (by kernel_rfl) (fun _ _ _ h => h) (by kernel_rfl) (Stay.refl _ _) (Or.inl ⟨by rfl, fun W hW => ?_⟩) ?_
      · go_simp
      conv => arg 8; simp [Act.put]
      refine wpAnyH_takeL (i := 3) (v := .pointer (some ⟨p, 0, none⟩)) #[true, true, true, true, false, false, false, false, false, false, false, false] rfl (by kernel_rfl) (by kernel_rfl) (by kernel_rfl) (fun _ _ _ h => h) (by kernel_rfl) (Stay.refl _ _) (Or.inl ⟨by rfl, fun W hW => ?_⟩) ?_
      · go_simp
      conv => arg 8; simp [Act.put]
      refine wpAnyH_takeL (i := 5) (v := .int .i64 (i : Int)) #[true, true, true, true, false, true, false, false, false, false, false, false] rfl (by kernel_rfl) (by kernel_rfl) (by kernel_rfl) (fun _ _ _ h => h) (by kernel_rfl) (Stay.refl _ _) (Or.inl ⟨by rfl, fun W hW => ?_⟩) ?_
      · go_simp
      conv => arg 8; simp [Act.put]
      refine wpAnyH_takeL (i := 6) #[true, true, true, true, false, true, true, false, false, false, false, false] rfl (by kernel_rfl) (by kernel_rfl) (by kernel_rfl) (fun _ _ _ h => h) (by kernel_rfl) (Stay.refl _ _) (yieldsIf_load rfl 27 (.tmp 3) rfl ⟨w.heap.size, 0, none⟩ rfl _ (fun W hW => (HX.out W hW).run_load)) ?_
      conv => arg 8; simp [Act.put]
      refine wpAnyH_ready (rs := [4, 7]) (by kernel_rfl) (by simp) ?_
      refine AllReadyH.cons (o := _) rfl (fun K hK => ?_) ?_
      · refine step_load_run rfl 22 (.tmp 29) rfl ⟨p, 0, none⟩ rfl v (run_load_slice HC.out) ?_
        refine Shut.out hK _ _ (Stay.refl _ _) (fun _ => ?_)
        clear hK
        refine wpAnyH_listedL #[true, true, true, true, true, true, true, false, false, false, false, false] (by kernel_rfl) ?_
        conv => arg 8; simp [Act.put]
        refine wpAnyH_one #[true, true, true, true, true, true, true, true, false, false, false, false] (i := 7) rfl (by kernel_rfl) (by kernel_rfl) (fun K hK => ?_)
        refine step_one_en rfl (.tmp 32) rfl (norm e) rfl ?_
        rw [WA.out]
        refine hK _ _ (HSA.out.mono (fun _ x => x.elim)) ?_
        clear hK
        conv => arg 8; simp [Act.put]
        refine wpAnyH_one #[true, true, true, true, true, true, true, true, true, false, false, false] (i := 8) rfl (by kernel_rfl) (by kernel_rfl) (fun K hK => ?_)
        go_simp
        go_wp2_with (go_at_call 23; refine HINS.out.mono ?_; rintro x w2 ⟨v', rfl, hI⟩)
        have HI := Lib.hid hI
        obtain ⟨va, vc, rfl⟩ := hI.own.form
        have HS2 := Lib.hid (show Stay (Own p v) w1.drew w2 from (HSA.out.mono (fun _ x => x.elim)).trans (hI.stay.mono (fun k hk => Or.inr hk)))
        clear hI
        refine hK _ _ HS2.out ?_
        clear hK
        conv => arg 8; simp [Act.put]
        refine wpAnyH_takeL (i := 9) (v := .pointer (some ⟨p, 0, none⟩)) #[true, true, true, true, true, true, true, true, true, true, false, false] rfl (by kernel_rfl) (by kernel_rfl) (by kernel_rfl) (fun _ _ _ h => h) (by kernel_rfl) HS2.out (Or.inl ⟨by rfl, fun W hW => ?_⟩) ?_
        · go_simp
        conv => arg 8; simp [Act.put]
        refine wpAnyH_takeL (i := 10) (v := .pointer (some ⟨p, 0, none⟩)) #[true, true, true, true, true, true, true, true, true, true, true, false] rfl (by kernel_rfl) (by kernel_rfl) (by kernel_rfl) (fun _ _ _ h => h) (by kernel_rfl) HS2.out (Or.inl ⟨by rfl, fun W hW => ?_⟩) ?_
        · go_simp
        conv => arg 8; simp [Act.put]
        refine wpAnyH_one #[true, true, true, true, true, true, true, true, true, true, true, true] (i := 11) rfl (by kernel_rfl) (by kernel_rfl) (fun K hK => ?_)
        have hp2 : w2.heap[p]? = some (.cells #[v] 43 (0, 0)) := (HI.out.stay.block p (Nat.lt_of_lt_of_le (Array.getElem?_eq_some_iff.1 HP.out).1 HSA.out.size) (fun h => (HBL.out p h).2 rfl)).trans ((HSA.out.block p (Array.getElem?_eq_some_iff.1 HP.out).1 (fun x => x)).trans HP.out)
        have hc2 : w2.cell? ⟨p, 0, none⟩ = some v := by rw [cell_of_row w2 p 0 _ _ _ hp2]; rfl
        have hf2 := frozen_of_row w2 p 0 _ _ hp2
        have HPUT := Lib.hid (HFIN.out w2 _ HI.out hp2)
        go_simp
        refine hK _ _ (HS2.out.trans (Stay.setCell _ _ _ (Or.inl rfl))) ?_
        clear hK hp2 hc2 hf2
        conv => arg 8; simp [Act.put]
        refine wpAnyH_done (by kernel_rfl) ?_ _
        go_wp2
        exact bodyPost_end (results_none rfl _ _ _) rfl ⟨rfl, HPUT.out⟩
      refine AllReadyH.cons (o := _) rfl (fun K hK => ?_) ?_
      · refine step_one_en rfl (.tmp 32) rfl (norm e) rfl ?_
        rw [WA.out]
        refine Shut.out hK _ _ (HSA.out.mono (fun _ x => x.elim)) (fun _ => ?_)
        clear hK
        refine wpAnyH_listedL #[true, true, true, true, false, true, true, true, false, false, false, false] (by kernel_rfl) ?_
        conv => arg 8; simp [Act.put]
        refine wpAnyH_one #[true, true, true, true, true, true, true, true, false, false, false, false] (i := 4) rfl (by kernel_rfl) (by kernel_rfl) (fun K hK => ?_)
        refine step_load_run rfl 22 (.tmp 29) rfl ⟨p, 0, none⟩ rfl v (run_load_slice HCA.out) ?_
        refine hK _ _ (HSA.out.mono (fun _ x => x.elim)) ?_
        clear hK
        conv => arg 8; simp [Act.put]
        refine wpAnyH_one #[true, true, true, true, true, true, true, true, true, false, false, false] (i := 8) rfl (by kernel_rfl) (by kernel_rfl) (fun K hK => ?_)
        go_simp
        go_wp2_with (go_at_call 23; refine HINS.out.mono ?_; rintro x w2 ⟨v', rfl, hI⟩)
        have HI := Lib.hid hI
        obtain ⟨va, vc, rfl⟩ := hI.own.form
        have HS2 := Lib.hid (show Stay (Own p v) w1.drew w2 from (HSA.out.mono (fun _ x => x.elim)).trans (hI.stay.mono (fun k hk => Or.inr hk)))
        clear hI
        refine hK _ _ HS2.out ?_
        clear hK
        conv => arg 8; simp [Act.put]
        refine wpAnyH_takeL (i := 9) (v := .pointer (some ⟨p, 0, none⟩)) #[true, true, true, true, true, true, true, true, true, true, false, false] rfl (by kernel_rfl) (by kernel_rfl) (by kernel_rfl) (fun _ _ _ h => h) (by kernel_rfl) HS2.out (Or.inl ⟨by rfl, fun W hW => ?_⟩) ?_
        · go_simp
        conv => arg 8; simp [Act.put]
        refine wpAnyH_takeL (i := 10) (v := .pointer (some ⟨p, 0, none⟩)) #[true, true, true, true, true, true, true, true, true, true, true, false] rfl (by kernel_rfl) (by kernel_rfl) (by kernel_rfl) (fun _ _ _ h => h) (by kernel_rfl) HS2.out (Or.inl ⟨by rfl, fun W hW => ?_⟩) ?_
        · go_simp
        conv => arg 8; simp [Act.put]
        refine wpAnyH_one #[true, true, true, true, true, true, true, true, true, true, true, true] (i := 11) rfl (by kernel_rfl) (by kernel_rfl) (fun K hK => ?_)
        have hp2 : w2.heap[p]? = some (.cells #[v] 43 (0, 0)) := (HI.out.stay.block p (Nat.lt_of_lt_of_le (Array.getElem?_eq_some_iff.1 HP.out).1 HSA.out.size) (fun h => (HBL.out p h).2 rfl)).trans ((HSA.out.block p (Array.getElem?_eq_some_iff.1 HP.out).1 (fun x => x)).trans HP.out)
        have hc2 : w2.cell? ⟨p, 0, none⟩ = some v := by rw [cell_of_row w2 p 0 _ _ _ hp2]; rfl
        have hf2 := frozen_of_row w2 p 0 _ _ hp2
        have HPUT := Lib.hid (HFIN.out w2 _ HI.out hp2)
        go_simp
        refine hK _ _ (HS2.out.trans (Stay.setCell _ _ _ (Or.inl rfl))) ?_
        clear hK hp2 hc2 hf2
        conv => arg 8; simp [Act.put]
        refine wpAnyH_done (by kernel_rfl) ?_ _
        go_wp2
        exact bodyPost_end (results_none rfl _ _ _) rfl ⟨rfl, HPUT.out⟩
      exact AllReadyH.nil
  | true =>
    have hbx : Box (w0.setCell ⟨w.heap.size, 1, none⟩ (.string ⟨#[]⟩)) w.heap.size (norm e) := by
      have h1 := heap_setCell_same w0 w.heap.size 1 _ _ (.string ⟨#[]⟩) HB0.out
      unfold Box norm
      rw [if_pos hg]
      unfold enC at h1 ⊢
      rw [hg] at h1
      exact h1
    have hst : Stay (fun _ => False) w (w0.setCell ⟨w.heap.size, 1, none⟩ (.string ⟨#[]⟩)) :=
      stay_seal (X := fun k => k = w.heap.size) ((HS0.out.mono (fun _ x => x.elim)).trans (Stay.setCell _ _ _ rfl)) (fun k hk => by have hk' : k = w.heap.size := hk; omega)
    have hsz : (w0.setCell ⟨w.heap.size, 1, none⟩ (.string ⟨#[]⟩)).heap.size = w.heap.size + 1 := by simp [HZ0.out]
    rw [hg] at c2 W0
    go_wp2_with (rw [W0.out])
    obtain ⟨wb, hwb⟩ : ∃ wb, w0.setCell ⟨w.heap.size, 1, none⟩ (.string ⟨#[]⟩) = wb := ⟨_, rfl⟩
    rw [hwb] at hbx hst hsz ⊢
    clear hwb
    have HBX := Lib.hid hbx
    have HST := Lib.hid hst
    have HSZ := Lib.hid hsz
    have HM := Lib.hid (H.out.stay0 hst)
    clear hbx hst hsz c0 c1 c2 f1 W0 HS0 HB0
    refine (place_any wb _ L e.k HM.out.mr HM.out.srt (by have := HL.out; omega)).mono ?_
    rintro x w1 ⟨rfl, s1⟩
    have HX1 := Lib.hid (HBX.out.stay0 s1)
    have HT1 := Lib.hid (HST.out.trans s1)
    have hm1 := HM.out.stay0 s1
    have HM1 := Lib.hid hm1
    have HZ1 := Lib.hid (show w.heap.size + 1 ≤ w1.heap.size by have := s1.size; have := HSZ.out; omega)
    obtain ⟨v, hp, ho, hbl⟩ := hm1.ex
    have HP := Lib.hid hp
    have HO := Lib.hid ho
    have HBL := Lib.hid hbl
    clear hm1 s1 HBX HST HM HSZ
    cases hhas : hasB L e.k with
    | true =>
      have hlt := hasB_lt hhas
      rcases id ho.2 with ⟨_, e0⟩ | ⟨b, c, cur, rfl, _, hgb, hnc, hcm, hcs, hct⟩
      · omega
      obtain ⟨R, hR⟩ : ∃ R, R = cur.toList := ⟨_, rfl⟩
      have hg' : w1.heap[b]? = some (.cells R.toArray 27 (0, 0)) := by rw [hR]; simpa using hgb
      have hRl : R.length = c * 3 := by rw [hR, Array.length_toList]; exact hcs
      rw [← hR] at hct
      have hcc : c ≤ 9223372036854775807 := by unfold maxLen at hcm; omega
      have hbp : b ≠ p := (hbl b rfl).2
      have hbB := (hbl b rfl).1
      have hbg : b ≠ w.heap.size := by
        have h1 := (H.out.stay0 HT1.out)
        obtain ⟨v2, h2, h3, h4⟩ := H.out.ex
        have h5 := (HT1.out.block p HPL.out (fun x => x)).trans h2
        rw [hp] at h5
        cases h5
        have := (h3.lt b rfl).2
        omega
      have HK := Lib.hid (show ∀ W, Stay (fun k => k = b) w1.drew W → W.cell? ⟨p, 0, none⟩ = some (.slice (some ⟨b, 0, none⟩) L.length c) from fun W hW => hW.cell (by show w1.cell? _ = _; rw [cell_of_row w1 p 0 _ _ _ HP.out]; rfl) (fun (h : p = b) => hbp h.symm))
      have HX := Lib.hid (show ∀ W, Stay (fun k => k = b) w1.drew W → Box W w.heap.size (norm e) from fun W hW => (show Box w1.drew w.heap.size (norm e) from HX1.out).stay hW (fun (h : w.heap.size = b) => hbg h.symm))
      have HRUN := Lib.hid (run_store_en (w := w1.drew) (o := posN L e.k * 3) (e := norm e) hg' (by rw [hRl]; omega))
      have hsS : Stay (fun k => k = b) w1 (w1.drew.setRow b (splice R (posN L e.k * 3) (enC (norm e))).toArray) := Stay.drew.trans (Stay.setRow _ _ _ rfl)
      have hput : putL L e = L.take (posN L e.k) ++ norm e :: L.drop (posN L e.k + 1) := by unfold putL; rw [hhas]; rfl
      have hlen : (putL L e).length = L.length := by rw [length_putL, if_pos hhas]
      have HPUT := Lib.hid (show Putd B w (w1.drew.setRow b (splice R (posN L e.k * 3) (enC (norm e))).toArray) p (putL L e) from
        ⟨⟨⟨.slice (some ⟨b, 0, none⟩) L.length c, (hsS.block p (Array.getElem?_eq_some_iff.1 HP.out).1 (fun (h : p = b) => hbp h.symm)).trans HP.out, by
            refine ⟨by rw [length_enRows], .inr ⟨b, c, (splice R (posN L e.k * 3) (enC (norm e))).toArray, by rw [hlen], Nat.zero_le _, setRow_heap w1.drew b _ _ _ _ hg', by rw [hlen]; exact hnc, hcm, ?_, ?_⟩⟩
            · rw [List.size_toArray, length_splice _ _ _ (by show _ * 3 + 3 ≤ _; omega), hRl]
            · rw [hlen, hput]
              exact splice_put L R (norm e) hlt hct, fun k hk => ⟨.inl (by cases hk; exact hbB), by cases hk; exact hbp⟩⟩, .inl H.out.bp, sorted_put H.out.srt e⟩,
         ⟨by rw [hsS.os, HT1.out.os], by rw [hsS.tape, HT1.out.tape], by rw [hsS.output, HT1.out.output], Nat.le_trans HT1.out.size hsS.size, fun k hk hB => (hsS.block k (Nat.lt_of_lt_of_le hk HT1.out.size) (fun (h : k = b) => hB (h ▸ hbB))).trans (HT1.out.block k hk (fun x => x))⟩⟩)
      clear hp ho hbl hgb hcm hcs hct hR hg' hRl hbg hsS hput hlen hhas hbB
      generalize posN L e.k = i at *
      go_wp2
      refine wp_region_held (S := Stay (fun k => k = b) w1.drew) (by kernel_rfl) ?_
      change wpAnyH _ _ _ _ _ _ _ _ (World.drew _)
      refine wpAnyH_takeL (i := 0) (v := .pointer (some ⟨p, 0, none⟩)) #[true, false, false, false, false, false, false, false] rfl (by kernel_rfl) (by kernel_rfl) (by kernel_rfl) (fun _ _ _ h => h) (by kernel_rfl) (Stay.refl _ _) (Or.inl ⟨by rfl, fun W hW => ?_⟩) ?_
      · go_simp
      conv => arg 8; simp [Act.put]
      refine wpAnyH_takeL (i := 1) (v := .pointer (some ⟨p, 0, none⟩)) #[true, true, false, false, false, false, false, false] rfl (by kernel_rfl) (by kernel_rfl) (by kernel_rfl) (fun _ _ _ h => h) (by kernel_rfl) (Stay.refl _ _) (Or.inl ⟨by rfl, fun W hW => ?_⟩) ?_
      · go_simp
      conv => arg 8; simp [Act.put]
      refine wpAnyH_takeL (i := 2) (v := .pointer (some ⟨p, 0, none⟩)) #[true, true, true, false, false, false, false, false] rfl (by kernel_rfl) (by kernel_rfl) (by kernel_rfl) (fun _ _ _ h => h) (by kernel_rfl) (Stay.refl _ _) (Or.inl ⟨by rfl, fun W hW => ?_⟩) ?_
      · go_simp
      conv => arg 8; simp [Act.put]
      refine wpAnyH_takeL (i := 3) (v := .slice (some ⟨b, 0, none⟩) L.length c) #[true, true, true, true, false, false, false, false] rfl (by kernel_rfl) (by kernel_rfl) (by kernel_rfl) (fun _ _ _ h => h) (by kernel_rfl) (Stay.refl _ _) (Or.inl ⟨by rfl, fun W hW => ?_⟩) ?_
      · have hc := HK.out W hW
        go_simp
      conv => arg 8; simp [Act.put]
      refine wpAnyH_takeL (i := 4) (v := .int .i64 (i : Int)) #[true, true, true, true, true, false, false, false] rfl (by kernel_rfl) (by kernel_rfl) (by kernel_rfl) (fun _ _ _ h => h) (by kernel_rfl) (Stay.refl _ _) (Or.inl ⟨by rfl, fun W hW => ?_⟩) ?_
      · go_simp
      conv => arg 8; simp [Act.put]
      refine wpAnyH_takeL (i := 5) #[true, true, true, true, true, true, false, false] rfl (by kernel_rfl) (by kernel_rfl) (by kernel_rfl) (fun _ _ _ h => h) (by kernel_rfl) (Stay.refl _ _) (yieldsIf_load rfl 27 (.tmp 3) rfl ⟨w.heap.size, 0, none⟩ rfl _ (fun W hW => (HX.out W hW).run_load)) ?_
      conv => arg 8; simp [Act.put]
      refine wpAnyH_takeL (i := 6) (v := .pointer (some ⟨b, i * 3, none⟩)) #[true, true, true, true, true, true, true, false] rfl (by kernel_rfl) (by kernel_rfl) (by kernel_rfl) (fun _ _ _ h => h) (by kernel_rfl) (Stay.refl _ _) (Or.inl ⟨by rfl, fun W hW => ?_⟩) ?_
      · go_simp
      conv => arg 8; simp [Act.put]
      refine wpAnyH_one #[true, true, true, true, true, true, true, true] (i := 7) rfl (by kernel_rfl) (by kernel_rfl) (fun K hK => ?_)
      refine step_store_run rfl 27 (.tmp 25) (.tmp 24) rfl ⟨b, i * 3, none⟩ rfl _ rfl _ HRUN.out ?_
      refine hK _ _ (Stay.setRow _ _ _ rfl) ?_
      clear hK
      conv => arg 8; simp [Act.put]
      refine wpAnyH_done (by kernel_rfl) ?_ _
      go_wp2
      refine bodyPost_ret (results_none rfl _ _ _) rfl ⟨rfl, HPUT.out⟩
    | false =>
      clear hp ho hbl
      have hc : w1.cell? ⟨p, 0, none⟩ = some v := by rw [cell_of_row w1 p 0 _ _ _ HP.out]; rfl
      have hle := posN_le e.k L
      have hput : putL L e = L.take (posN L e.k) ++ norm e :: L.drop (posN L e.k) := by unfold putL; rw [hhas]; rfl
      obtain ⟨wa, hwa⟩ : ∃ wa, w1.drew.alloc (.cells (enC (norm e)).toArray 27) = wa := ⟨_, rfl⟩
      have hsa : Stay (fun _ => False) w1.drew wa := hwa ▸ Stay.alloc _ _
      have hba : Box wa w1.heap.size (norm e) := by rw [← hwa]; exact Box.new w1.drew (norm e)
      have WA := Lib.hid hwa
      have HSA := Lib.hid hsa
      have HBA := Lib.hid hba
      have HOA := Lib.hid (show EnO 0 wa v L from HO.out.stay0 (Stay.drew.trans hsa))
      have HNE := Lib.hid (show v.ownBlock ≠ some w1.heap.size from fun h => by have := (HO.out.lt _ h).2; omega)
      have HC := Lib.hid (show w1.drew.cell? ⟨p, 0, none⟩ = some v from hc)
      have HCA := Lib.hid (hsa.cell (show w1.drew.cell? ⟨p, 0, none⟩ = some v from hc) (fun x => x))
      have HX := Lib.hid (show ∀ W, Stay (Own p v) w1.drew W → Box W w.heap.size (norm e) from fun W hW => (show Box w1.drew w.heap.size (norm e) from HX1.out).stay hW (fun h => by
        rcases h with h | h
        · have := HPL.out; omega
        · obtain ⟨v2, h2, h3, h4⟩ := H.out.ex
          have h5 := (HT1.out.block p HPL.out (fun x => x)).trans h2
          rw [HP.out] at h5
          cases h5
          have := (h3.lt _ h).2
          omega))
      have hins := insert_any wa v (posN L e.k) L (norm e) w1.heap.size HOA.out HBA.out HNE.out hle (by have := HL.out; omega)
      obtain ⟨M, hM⟩ : ∃ M, M = L.take (posN L e.k) ++ norm e :: L.drop (posN L e.k) := ⟨_, rfl⟩
      rw [← hM] at hput hins
      have HINS := Lib.hid hins
      have HFIN := Lib.hid (show ∀ w2 v', Ins wa w2 v v' M → w2.heap[p]? = some (.cells #[v] 43 (0, 0)) → Putd B w (w2.setCell ⟨p, 0, none⟩ v') p (putL L e) from fun w2 v' hI hp2 => by
        have hpv : v'.ownBlock ≠ some p := fun h => by
          rcases hI.blk with h1 | ⟨k, h1, h2⟩
          · rw [h1] at h
            exact (HBL.out p h).2 rfl
          · rw [h1] at h
            cases h
            have := hsa.size
            have h3 := (Array.getElem?_eq_some_iff.1 HP.out).1
            have h4 : w1.drew.heap.size = w1.heap.size := rfl
            omega
        have hS : Stay (Own p v) w1 (w2.setCell ⟨p, 0, none⟩ v') := ((Stay.drew.trans hsa).mono (fun _ x => x.elim)).trans ((hI.stay.mono (fun k hk => Or.inr hk)).trans (Stay.setCell _ _ _ (Or.inl rfl)))
        refine ⟨⟨⟨v', heap_setCell_same w2 p 0 _ _ _ hp2, ?_, fun k hk => ⟨?_, fun h => hpv (h ▸ hk)⟩⟩, .inl H.out.bp, sorted_put H.out.srt e⟩, ?_⟩
        · rw [hput]
          exact hI.own.stay (Stay.setCell (X := fun k => k = p) _ _ _ rfl) (fun k hk h => hpv (h ▸ hk))
        · rcases hI.blk with h1 | ⟨j, h1, h2⟩
          · exact .inl (HBL.out k (h1 ▸ hk)).1
          · rw [h1] at hk
            cases hk
            have h3 := hsa.size
            have h4 : w1.drew.heap.size = w1.heap.size := rfl
            have := HZ1.out
            exact .inr (by omega)
        · refine ⟨hS.os.trans HT1.out.os, hS.tape.trans HT1.out.tape, hS.output.trans HT1.out.output, Nat.le_trans HT1.out.size hS.size, fun k hk hB => (hS.block k (Nat.lt_of_lt_of_le hk HT1.out.size) (fun h => ?_)).trans (HT1.out.block k hk (fun x => x))⟩
          rcases h with h | h
          · exact hB (h ▸ H.out.bp)
          · exact hB (HBL.out k h).1)
      clear hput hwa hsa hba hc hhas hins hM
      generalize posN L e.k = i at *
      go_wp2
      refine wp_region_held (S := Stay (Own p v) w1.drew) (by kernel_rfl) ?_
      change wpAnyH _ _ _ _ _ _ _ _ (World.drew _)
      refine wpAnyH_takeL (i := 0) (v := .pointer (some ⟨p, 0, none⟩)) #[true, false, false, false, false, false, false, false, false, false, false, false] rfl (by kernel_rfl) (by kernel_rfl) (by kernel_rfl) (fun _ _ _ h => h) (by kernel_rfl) (Stay.refl _ _) (Or.inl ⟨by rfl, fun W hW => ?_⟩) ?_
      · go_simp
      conv => arg 8; simp [Act.put]
      refine wpAnyH_takeL (i := 1) (v := .pointer (some ⟨p, 0, none⟩)) #[true, true, false, false, false, false, false, false, false, false, false, false] rfl (by kernel_rfl) (by kernel_rfl) (by kernel_rfl) (fun _ _ _ h => h) (by kernel_rfl) (Stay.refl _ _) (Or.inl ⟨by rfl, fun W hW => ?_⟩) ?_
      · go_simp
      conv => arg 8; simp [Act.put]
      refine wpAnyH_takeL (i := 2) (v := .pointer (some ⟨p, 0, none⟩)) #[true, true, true, false, false, false, false, false, false, false, false, false] rfl (by kernel_rfl) (by kernel_rfl) (by kernel_rfl) (fun _ _ _ h => h) (by kernel_rfl) (Stay.refl _ _) (Or.inl ⟨by rfl, fun W hW => ?_⟩) ?_
      · go_simp
      conv => arg 8; simp [Act.put]
      refine wpAnyH_takeL (i := 3) (v := .pointer (some ⟨p, 0, none⟩)) #[true, true, true, true, false, false, false, false, false, false, false, false] rfl (by kernel_rfl) (by kernel_rfl) (by kernel_rfl) (fun _ _ _ h => h) (by kernel_rfl) (Stay.refl _ _) (Or.inl ⟨by rfl, fun W hW => ?_⟩) ?_
      · go_simp
      conv => arg 8; simp [Act.put]
      refine wpAnyH_takeL (i := 5) (v := .int .i64 (i : Int)) #[true, true, true, true, false, true, false, false, false, false, false, false] rfl (by kernel_rfl) (by kernel_rfl) (by kernel_rfl) (fun _ _ _ h => h) (by kernel_rfl) (Stay.refl _ _) (Or.inl ⟨by rfl, fun W hW => ?_⟩) ?_
      · go_simp
      conv => arg 8; simp [Act.put]
      refine wpAnyH_takeL (i := 6) #[true, true, true, true, false, true, true, false, false, false, false, false] rfl (by kernel_rfl) (by kernel_rfl) (by kernel_rfl) (fun _ _ _ h => h) (by kernel_rfl) (Stay.refl _ _) (yieldsIf_load rfl 27 (.tmp 3) rfl ⟨w.heap.size, 0, none⟩ rfl _ (fun W hW => (HX.out W hW).run_load)) ?_
      conv => arg 8; simp [Act.put]
      refine wpAnyH_ready (rs := [4, 7]) (by kernel_rfl) (by simp) ?_
      refine AllReadyH.cons (o := _) rfl (fun K hK => ?_) ?_
      · refine step_load_run rfl 22 (.tmp 29) rfl ⟨p, 0, none⟩ rfl v (run_load_slice HC.out) ?_
        refine Shut.out hK _ _ (Stay.refl _ _) (fun _ => ?_)
        clear hK
        refine wpAnyH_listedL #[true, true, true, true, true, true, true, false, false, false, false, false] (by kernel_rfl) ?_
        conv => arg 8; simp [Act.put]
        refine wpAnyH_one #[true, true, true, true, true, true, true, true, false, false, false, false] (i := 7) rfl (by kernel_rfl) (by kernel_rfl) (fun K hK => ?_)
        refine step_one_en rfl (.tmp 32) rfl (norm e) rfl ?_
        rw [WA.out]
        refine hK _ _ (HSA.out.mono (fun _ x => x.elim)) ?_
        clear hK
        conv => arg 8; simp [Act.put]
        refine wpAnyH_one #[true, true, true, true, true, true, true, true, true, false, false, false] (i := 8) rfl (by kernel_rfl) (by kernel_rfl) (fun K hK => ?_)
        go_simp
        go_wp2_with (go_at_call 23; refine HINS.out.mono ?_; rintro x w2 ⟨v', rfl, hI⟩)
        have HI := Lib.hid hI
        obtain ⟨va, vc, rfl⟩ := hI.own.form
        have HS2 := Lib.hid (show Stay (Own p v) w1.drew w2 from (HSA.out.mono (fun _ x => x.elim)).trans (hI.stay.mono (fun k hk => Or.inr hk)))
        clear hI
        refine hK _ _ HS2.out ?_
        clear hK
        conv => arg 8; simp [Act.put]
        refine wpAnyH_takeL (i := 9) (v := .pointer (some ⟨p, 0, none⟩)) #[true, true, true, true, true, true, true, true, true, true, false, false] rfl (by kernel_rfl) (by kernel_rfl) (by kernel_rfl) (fun _ _ _ h => h) (by kernel_rfl) HS2.out (Or.inl ⟨by rfl, fun W hW => ?_⟩) ?_
        · go_simp
        conv => arg 8; simp [Act.put]
        refine wpAnyH_takeL (i := 10) (v := .pointer (some ⟨p, 0, none⟩)) #[true, true, true, true, true, true, true, true, true, true, true, false] rfl (by kernel_rfl) (by kernel_rfl) (by kernel_rfl) (fun _ _ _ h => h) (by kernel_rfl) HS2.out (Or.inl ⟨by rfl, fun W hW => ?_⟩) ?_
        · go_simp
        conv => arg 8; simp [Act.put]
        refine wpAnyH_one #[true, true, true, true, true, true, true, true, true, true, true, true] (i := 11) rfl (by kernel_rfl) (by kernel_rfl) (fun K hK => ?_)
        have hp2 : w2.heap[p]? = some (.cells #[v] 43 (0, 0)) := (HI.out.stay.block p (Nat.lt_of_lt_of_le (Array.getElem?_eq_some_iff.1 HP.out).1 HSA.out.size) (fun h => (HBL.out p h).2 rfl)).trans ((HSA.out.block p (Array.getElem?_eq_some_iff.1 HP.out).1 (fun x => x)).trans HP.out)
        have hc2 : w2.cell? ⟨p, 0, none⟩ = some v := by rw [cell_of_row w2 p 0 _ _ _ hp2]; rfl
        have hf2 := frozen_of_row w2 p 0 _ _ hp2
        have HPUT := Lib.hid (HFIN.out w2 _ HI.out hp2)
        go_simp
        refine hK _ _ (HS2.out.trans (Stay.setCell _ _ _ (Or.inl rfl))) ?_
        clear hK hp2 hc2 hf2
        conv => arg 8; simp [Act.put]
        refine wpAnyH_done (by kernel_rfl) ?_ _
        go_wp2
        exact bodyPost_end (results_none rfl _ _ _) rfl ⟨rfl, HPUT.out⟩
      refine AllReadyH.cons (o := _) rfl (fun K hK => ?_) ?_
      · refine step_one_en rfl (.tmp 32) rfl (norm e) rfl ?_
        rw [WA.out]
        refine Shut.out hK _ _ (HSA.out.mono (fun _ x => x.elim)) (fun _ => ?_)
        clear hK
        refine wpAnyH_listedL #[true, true, true, true, false, true, true, true, false, false, false, false] (by kernel_rfl) ?_
        conv => arg 8; simp [Act.put]
        refine wpAnyH_one #[true, true, true, true, true, true, true, true, false, false, false, false] (i := 4) rfl (by kernel_rfl) (by kernel_rfl) (fun K hK => ?_)
        refine step_load_run rfl 22 (.tmp 29) rfl ⟨p, 0, none⟩ rfl v (run_load_slice HCA.out) ?_
        refine hK _ _ (HSA.out.mono (fun _ x => x.elim)) ?_
        clear hK
        conv => arg 8; simp [Act.put]
        refine wpAnyH_one #[true, true, true, true, true, true, true, true, true, false, false, false] (i := 8) rfl (by kernel_rfl) (by kernel_rfl) (fun K hK => ?_)
        go_simp
        go_wp2_with (go_at_call 23; refine HINS.out.mono ?_; rintro x w2 ⟨v', rfl, hI⟩)
        have HI := Lib.hid hI
        obtain ⟨va, vc, rfl⟩ := hI.own.form
        have HS2 := Lib.hid (show Stay (Own p v) w1.drew w2 from (HSA.out.mono (fun _ x => x.elim)).trans (hI.stay.mono (fun k hk => Or.inr hk)))
        clear hI
        refine hK _ _ HS2.out ?_
        clear hK
        conv => arg 8; simp [Act.put]
        refine wpAnyH_takeL (i := 9) (v := .pointer (some ⟨p, 0, none⟩)) #[true, true, true, true, true, true, true, true, true, true, false, false] rfl (by kernel_rfl) (by kernel_rfl) (by kernel_rfl) (fun _ _ _ h => h) (by kernel_rfl) HS2.out (Or.inl ⟨by rfl, fun W hW => ?_⟩) ?_
        · go_simp
        conv => arg 8; simp [Act.put]
        refine wpAnyH_takeL (i := 10) (v := .pointer (some ⟨p, 0, none⟩)) #[true, true, true, true, true, true, true, true, true, true, true, false] rfl (by kernel_rfl) (by kernel_rfl) (by kernel_rfl) (fun _ _ _ h => h) (by kernel_rfl) HS2.out (Or.inl ⟨by rfl, fun W hW => ?_⟩) ?_
        · go_simp
        conv => arg 8; simp [Act.put]
        refine wpAnyH_one #[true, true, true, true, true, true, true, true, true, true, true, true] (i := 11) rfl (by kernel_rfl) (by kernel_rfl) (fun K hK => ?_)
        have hp2 : w2.heap[p]? = some (.cells #[v] 43 (0, 0)) := (HI.out.stay.block p (Nat.lt_of_lt_of_le (Array.getElem?_eq_some_iff.1 HP.out).1 HSA.out.size) (fun h => (HBL.out p h).2 rfl)).trans ((HSA.out.block p (Array.getElem?_eq_some_iff.1 HP.out).1 (fun x => x)).trans HP.out)
        have hc2 : w2.cell? ⟨p, 0, none⟩ = some v := by rw [cell_of_row w2 p 0 _ _ _ hp2]; rfl
        have hf2 := frozen_of_row w2 p 0 _ _ hp2
        have HPUT := Lib.hid (HFIN.out w2 _ HI.out hp2)
        go_simp
        refine hK _ _ (HS2.out.trans (Stay.setCell _ _ _ (Or.inl rfl))) ?_
        clear hK hp2 hc2 hf2
        conv => arg 8; simp [Act.put]
        refine wpAnyH_done (by kernel_rfl) ?_ _
        go_wp2
        exact bodyPost_end (results_none rfl _ _ _) rfl ⟨rfl, HPUT.out⟩
      exact AllReadyH.nil
end Go.Proofs.Ytnhcnikickihgaa.Me
