/-
  index: what a law's loop over acts keeps, with views.
-/
import Derived.Test.YtljlfdhjolcnaaaGreatIxSuz
import Derived.Test.YtljlfdhjolcnaaaGreatIxLvz
namespace Go.Proofs.YtljlfdhjolcnaaaGreat.Ix
open Go.RowKit Go.Maps Me Mg Bo
set_option maxRecDepth 100000
set_option linter.unusedVariables false
set_option linter.unusedSimpArgs false

/-- A box of an act. -/
def ABox (w : World) (g : Nat) (t : Ac) : Prop := w.heap[g]? = some (.cells (acC t).toArray 37 (0, 0))
theorem ABox.lt {w : World} {g : Nat} {t : Ac} (h : ABox w g t) : g < w.heap.size := (Array.getElem?_eq_some_iff.1 h).1
theorem ABox.stay {X : Nat → Prop} {w w' : World} {g : Nat} {t : Ac} (h : ABox w g t) (hs : Stay X w w') (hx : ¬ X g) : ABox w' g t := (hs.block g h.lt hx).trans h
theorem ABox.cel {w : World} {g : Nat} {t : Ac} (h : ABox w g t) {j : Nat} {u : Value} (hu : (acC t)[j]? = some u) : w.cell? ⟨g, j, none⟩ = some u := by
  rw [cell_of_row w g j _ _ _ h]
  simpa using hu
/-- What the laws' loop over acts keeps. -/
def VRel (base : Nat) (w2 wr : World) (x i k : Nat) (vv hv : Value) : Prop :=
  ∃ (A BV C : Nat → Prop) (I : Im) (PS : List Nat) (WS : List Vw) (HS : List Value), Vst base A BV C wr x I vv hv PS WS HS ∧ Wf I (WS.map (·.Q)) i i ∧ I.mg = false ∧ WS.length = k ∧ (∀ V ∈ WS, V.Q.length ≤ 40 ∧ sumL (listsS V.A V.Q) ≤ 40) ∧ Stay (fun k => base ≤ k) w2 wr
theorem VRel.start {base : Nat} {w : World} {x m f p q : Nat} {A : Nat → Prop} (h : IxAt A w x (freshI True m f p q)) (hA : ∀ k, A k → base ≤ k ∧ k < w.heap.size) : VRel base w w x 0 0 (.slice none 0 0) (.slice none 0 0) := by
  refine ⟨A, fun _ => False, fun _ => False, freshI True m f p q, [], [], [], ⟨h, ⟨rfl, rfl, CO.nil _ _ _, CO.nil _ _ _, by simp, ?_, ?_, ?_, ?_⟩, ?_, ?_, ?_⟩, Wf.fresh True m f p q, rfl, rfl, ?_, Stay.refl _ _⟩
  · intro k p V h
    simp at h
  · intro k u V h
    simp at h
  · intro j hj
    cases hj
  · intro j hj
    cases hj
  · exact fun k hk => ⟨fun h => h, fun h => h⟩
  · exact fun k hk => hk.elim
  · intro k hk
    rcases hk with hk | hk | hk
    · exact hA k hk
    · exact hk.elim
    · exact hk.elim
  · intro V hV
    cases hV
/-- A value was told. -/
def SomeR (y : Ending) : Prop := ∃ v, y = .returned v
section
variable {base : Nat} {w4 w w' : World} {x i k : Nat} {vv hv : Value}
theorem VRel.stay0 (h : VRel base w4 w x i k vv hv) (hs : Stay (fun _ => False) w w') : VRel base w4 w' x i k vv hv := by
  obtain ⟨A, BV, C, I, PS, WS, HS, h1, h2, h3, h4, h5, h6⟩ := h
  exact ⟨A, BV, C, I, PS, WS, HS, h1.stay0 hs, h2, h3, h4, h5, h6.trans (hs.mono (fun _ x => x.elim))⟩
theorem VRel.up (h : VRel base w4 w x i k vv hv) : VRel base w4 w x (i + 1) k vv hv := by
  obtain ⟨A, BV, C, I, PS, WS, HS, h1, h2, h3, h4, h5, h6⟩ := h
  exact ⟨A, BV, C, I, PS, WS, HS, h1, h2.mono (Nat.le_succ _) (Nat.le_succ _), h3, h4, h5, h6⟩
theorem VRel.big (h : VRel base w4 w x i k vv hv) : base ≤ w.heap.size := by
  obtain ⟨A, BV, C, I, PS, WS, HS, h1, _⟩ := h
  obtain ⟨B, F, a, v, vs, hB, _, _, g, _⟩ := h1.ix.ex
  have := h1.lt x (.inl (hB x g.bx))
  omega
theorem VRel.did {A BV C : Nat → Prop} {I I' : Im} {PS : List Nat} {WS : List Vw} {HS : List Value} (h1 : Vst base A BV C w x I vv hv PS WS HS) (hb : base ≤ w.heap.size) (hm : I'.mg = false) (h4 : WS.length = k) (h5 : ∀ V ∈ WS, V.Q.length ≤ 40 ∧ sumL (listsS V.A V.Q) ≤ 40) (h6 : Stay (fun k => base ≤ k) w4 w) {e t : Nat} (he : e ≤ i + 1) (ht : t ≤ i + 1) (hd : Did A w w' x I I' (WS.map (·.Q)) e t) : VRel base w4 w' x (i + 1) k vv hv :=
  ⟨_, BV, C, I', PS, WS, HS, h1.did hd hb, hd.wf.mono he ht, hm, h4, h5, h6.trans (hd.st.mono (fun k hk => (h1.lt k (.inl hk)).1))⟩
theorem VRel.put (h : VRel base w4 w x i k vv hv) (hi : i ≤ 40) (key val : List UInt8) (hk : key.length ≤ 140737488351232) (hv' : val.length ≤ 140737488351232) :
    Calls Tryz.prog 15 #[.pointer (some ⟨x, 0, none⟩), strV key, strV val] w fun y w' => SomeR y ∧ VRel base w4 w' x (i + 1) k vv hv := by
  have hb := h.big
  have h0 := h
  obtain ⟨A, BV, C, I, PS, WS, HS, h1, h2, h3, h4, h5, h6⟩ := h
  refine (put_law key val h1.ix h2 (by omega) (by omega) hk hv').mono ?_
  rintro y w' (⟨_, rfl, hs⟩ | ⟨_, rfl, I', hd, hp⟩)
  · exact ⟨⟨_, rfl⟩, (h0.stay0 hs).up⟩
  · exact ⟨⟨_, rfl⟩, VRel.did h1 hb (hp.mg.trans h3) h4 h5 h6 (Nat.le_refl _) (Nat.le_refl _) hd⟩
theorem VRel.drop (h : VRel base w4 w x i k vv hv) (hi : i ≤ 40) (key : List UInt8) (hk : key.length ≤ 140737488351232) :
    Calls Tryz.prog 10 #[.pointer (some ⟨x, 0, none⟩), strV key] w fun y w' => SomeR y ∧ VRel base w4 w' x (i + 1) k vv hv := by
  have hb := h.big
  have h0 := h
  obtain ⟨A, BV, C, I, PS, WS, HS, h1, h2, h3, h4, h5, h6⟩ := h
  refine (drop_law key h1.ix h2 (by omega) (by omega) hk).mono ?_
  rintro y w' (⟨_, rfl, hs⟩ | ⟨_, rfl, I', hd, hp⟩)
  · exact ⟨⟨_, rfl⟩, (h0.stay0 hs).up⟩
  · exact ⟨⟨_, rfl⟩, VRel.did h1 hb (hp.mg.trans h3) h4 h5 h6 (Nat.le_refl _) (Nat.le_refl _) hd⟩
theorem VRel.flush (h : VRel base w4 w x i k vv hv) (hi : i ≤ 40) :
    Calls Tryz.prog 12 #[.pointer (some ⟨x, 0, none⟩)] w fun y w' => SomeR y ∧ VRel base w4 w' x (i + 1) k vv hv := by
  have hb := h.big
  obtain ⟨A, BV, C, I, PS, WS, HS, h1, h2, h3, h4, h5, h6⟩ := h
  refine (flush_law h1.ix h2 (by omega) (by omega)).mono ?_
  rintro y w' ⟨rfl, I', hd, hp⟩
  exact ⟨⟨_, rfl⟩, VRel.did h1 hb (hp.mg.trans h3) h4 h5 h6 (Nat.le_succ _) (Nat.le_refl _) hd⟩
/-- A job has begun. -/
def VJob (base : Nat) (w4 w : World) (x i k : Nat) (vv hv : Value) (j : Nat) : Prop :=
  ∃ (A BV C AJ : Nat → Prop) (I : Im) (PS : List Nat) (WS : List Vw) (HS : List Value) (J : Jb) (P : List (List Sh)) (pre suf : List Sh) (T : List (List Sh)), Vst base A BV C w x I vv hv PS WS HS ∧ Wf I (WS.map (·.Q)) i i ∧ WS.length = k ∧ (∀ V ∈ WS, V.Q.length ≤ 40 ∧ sumL (listsS V.A V.Q) ≤ 40) ∧ Stay (fun k => base ≤ k) w4 w ∧
    JAt AJ w j J ∧ J.x = x ∧ Runs I J P pre suf T ∧ ∀ k, AJ k → base ≤ k ∧ ¬ A k ∧ ¬ BV k ∧ ¬ C k
theorem VRel.compact (h : VRel base w4 w x i k vv hv) (hi : i ≤ 40) :
    Calls Tryz.prog 13 #[.pointer (some ⟨x, 0, none⟩)] w fun y w' => (∃ c : Nat, y = .returned (.tuple #[.pointer none, errI c]) ∧ VRel base w4 w' x (i + 1) k vv hv) ∨ (∃ j, y = .returned (.tuple #[.pointer (some ⟨j, 0, none⟩), .nilIface]) ∧ VJob base w4 w' x i k vv hv j) := by
  have hb := h.big
  have h0 := h
  obtain ⟨A, BV, C, I, PS, WS, HS, h1, h2, h3, h4, h5, h6⟩ := h
  refine (compact_law h1.ix h2 (by omega) (by omega)).mono ?_
  rintro y w' (⟨_, ⟨c, rfl⟩, hs⟩ | ⟨_, j, lv, P, suf, T, _, rfl, hi1, hj1, hs, hw, hr⟩)
  · exact .inl ⟨c, rfl, (h0.stay0 hs).up⟩
  · have hv1 := h1.index hs (fun _ _ h => h) hi1 (fun _ _ h => .inl h) hb
    refine .inr ⟨j, rfl, A, BV, C, fun k => w.heap.size ≤ k, _, PS, WS, HS, _, P, [], suf, T, ⟨hi1, hv1.vs, h1.ab, h1.bc, fun k hk => ⟨(h1.lt k hk).1, Nat.lt_of_lt_of_le (h1.lt k hk).2 hs.size⟩⟩, hw, h4, h5, h6.trans (hs.mono (fun k hk => (h1.lt k (.inl hk)).1)), hj1, rfl, hr, fun k hk => ⟨by omega, fun h => ?_, fun h => ?_, fun h => ?_⟩⟩
    · have := (h1.lt k (.inl h)).2
      omega
    · have := (h1.lt k (.inr (.inl h))).2
      omega
    · have := (h1.lt k (.inr (.inr h))).2
      omega
theorem VJob.step {j : Nat} (h : VJob base w4 w x i k vv hv j) (hi : i ≤ 40) (hk : k ≤ 40) :
    Calls Tryz.prog 14 #[.pointer (some ⟨j, 0, none⟩), .int .i64 100000] w fun y w' => SomeR y ∧ VRel base w4 w' x (i + 1) k vv hv := by
  obtain ⟨A, BV, C, AJ, I, PS, WS, HS, J, P, pre, suf, T, h1, h2, h4, h5, h6, hj, hx, hr, hd⟩ := h
  have hsm := (hr.small h2).2
  rw [List.length_append] at hsm
  refine (step_law (n := 100000) h1.ix h2 (by omega) (by omega) (by rw [List.length_map]; omega) hj hx (fun k _ ha haj => (hd k haj).2.1 ha) hr (by decide) (by decide)).mono ?_
  rintro y w' (⟨h7, _⟩ | ⟨_, rfl, _, hs, I', M, hi', hw', hn', hm', _⟩)
  · omega
  · have hb : base ≤ w.heap.size := by
      obtain ⟨B, F, a, v, vs, hB, _, _, g, _⟩ := h1.ix.ex
      have := h1.lt x (.inl (hB x g.bx))
      omega
    have hs2 : Stay (fun k => A k ∨ AJ k) w w' := hs
    have hvs := h1.vs.stay hs2 (fun k hk => hk.elim (h1.ab k) (fun h => (hd k h).2.2))
    refine ⟨⟨_, rfl⟩, fun k => A k ∨ (w.heap.size ≤ k ∧ k < w'.heap.size), BV, C, I', PS, WS, HS, ⟨hi'.mono (fun k hk h => h.imp id (fun h => ⟨h, hk⟩)), hvs, fun k hk => ?_, h1.bc, fun k hk => ?_⟩, hw'.mono (Nat.le_succ _) (Nat.le_refl _), hm', h4, h5, h6.trans (hs2.mono (fun k hk => hk.elim (fun h => (h1.lt k (.inl h)).1) (fun h => (hd k h).1)))⟩
    · rcases hk with hk | hk
      · exact h1.ab k hk
      · exact ⟨fun h => by have := (h1.lt k (.inr (.inl h))).2; omega, fun h => by have := (h1.lt k (.inr (.inr h))).2; omega⟩
    · have hz := hs.size
      rcases hk with (hk | hk) | hk
      · have := h1.lt k (.inl hk)
        omega
      · omega
      · have := h1.lt k (.inr hk)
        omega
theorem VRel.rows (h : VRel base w4 w x i k vv hv) : ∃ (PS : List Nat) (HS : List Value), PS.length = k ∧ HS.length = k ∧ CO 0 62 w vv (PS.map ptrV) ∧ CO 0 34 w hv HS := by
  obtain ⟨A, BV, C, I, PS, WS, HS, h1, h2, h3, h4, h5, h6⟩ := h
  exact ⟨PS, HS, h1.vs.lp.trans h4, h1.vs.lh.trans h4, h1.vs.pv, h1.vs.ph⟩
/-- One view, and what it had. -/
theorem VRel.one (h : VRel base w4 w x i k vv hv) {kk : Nat} (hk : kk < k) : ∃ (p gv gh cv ch : Nat) (u : Value) (M : List En), vv = .slice (some ⟨gv, 0, none⟩) k cv ∧ hv = .slice (some ⟨gh, 0, none⟩) k ch ∧ w.cell? ⟨gv, kk, none⟩ = some (.pointer (some ⟨p, 0, none⟩)) ∧ w.cell? ⟨gh, kk, none⟩ = some u ∧ EnS w u M ∧
    ∀ W, Stay (fun _ => False) w W → Calls Tryz.prog 24 #[.pointer (some ⟨p, 0, none⟩), strV [], strV []] W fun y w' => ∃ v, y = .returned v ∧ EnO W.heap.size w' v M ∧ Stay (fun _ => False) W w' := by
  obtain ⟨A, BV, C, I, PS, WS, HS, h1, h2, h3, h4, h5, h6⟩ := h
  have hlp := h1.vs.lp.trans h4
  have hlh := h1.vs.lh.trans h4
  obtain ⟨p, hp⟩ : ∃ p, PS[kk]? = some p := ⟨_, List.getElem?_eq_getElem (by omega)⟩
  obtain ⟨u, hu⟩ : ∃ u, HS[kk]? = some u := ⟨_, List.getElem?_eq_getElem (by omega)⟩
  obtain ⟨V, hV⟩ : ∃ V, WS[kk]? = some V := ⟨_, List.getElem?_eq_getElem (by omega)⟩
  have hpv := h1.vs.pv
  have hph := h1.vs.ph
  obtain ⟨gv, cv, rfl, _⟩ := hpv.at (by rw [List.length_map]; omega)
  obtain ⟨gh, ch, rfl, _⟩ := hph.at (by omega)
  rw [List.length_map, hlp] at hpv
  rw [hlh] at hph
  obtain ⟨hh1, _⟩ := h1.vs.hd kk u V hu hV
  have hVm := List.mem_of_getElem? hV
  refine ⟨p, gv, gh, cv, ch, u, _, by rw [List.length_map, hlp], by rw [hlh], hpv.cell (j := kk) (by rw [List.getElem?_map, hp]; rfl), hph.cell hu, hh1.ens, fun W hW => ?_⟩
  have hb := h5 V hVm
  exact vrange_any W x p I V [] [] (h1.ix.stay0 hW) ((h1.vs.vw kk p V hp hV).stay0 hW) (h2.vs V.Q (List.mem_map_of_mem hVm)) (by omega) (by omega)
/-- A view is let go; what it had is still there. -/
def VLeft (base : Nat) (w4 w : World) (x i k : Nat) (vv hv : Value) (kk : Nat) : Prop :=
  ∃ HS : List Value, HS.length = k ∧ CO 0 34 w hv HS ∧ ∀ w2, Stay (fun j => hv.ownBlock = some j) w w2 → CO 0 34 w2 hv (HS.set kk (.slice none 0 0)) → VRel base w4 w2 x (i + 1) k vv hv
theorem VRel.leave (h : VRel base w4 w x i k vv hv) (hi : i ≤ 40) {kk p gv cv : Nat} (hk : kk < k) (hk40 : k ≤ 40) (hvv : vv = .slice (some ⟨gv, 0, none⟩) k cv) (hc : w.cell? ⟨gv, kk, none⟩ = some (.pointer (some ⟨p, 0, none⟩))) :
    Calls Tryz.prog 23 #[.pointer (some ⟨p, 0, none⟩)] w fun y w' => y = .returned (.tuple #[]) ∧ VLeft base w4 w' x i k vv hv kk := by
  have hb := h.big
  obtain ⟨A, BV, C, I, PS, WS, HS, h1, h2, h3, h4, h5, h6⟩ := h
  have hlp := h1.vs.lp.trans h4
  have hlh := h1.vs.lh.trans h4
  obtain ⟨q, hp⟩ : ∃ p, PS[kk]? = some p := ⟨_, List.getElem?_eq_getElem (by omega)⟩
  obtain ⟨V, hV⟩ : ∃ V, WS[kk]? = some V := ⟨_, List.getElem?_eq_getElem (by omega)⟩
  have hpv := h1.vs.pv
  rw [hvv] at hpv
  have hcq := hpv.cell (j := kk) (u := ptrV q) (by rw [List.getElem?_map, hp]; rfl)
  rw [hc] at hcq
  obtain rfl : p = q := by
    simp only [ptrV, Option.some.injEq, Value.pointer.injEq, Addr.mk.injEq] at hcq
    exact hcq.1
  refine (release_law h1.ix h2 (by omega) (by omega) (by rw [List.length_map]; omega) (h1.vs.vw kk p V hp hV) (by rw [List.getElem?_map, hV]; rfl) (fun k _ ha => (h1.ab k ha).1)).mono ?_
  rintro y w1 ⟨rfl, I1, hs, hi1, hv1, hw1, hn1, hm1, _, _⟩
  have hpb : BV p := hv1.bp
  refine ⟨rfl, HS, hlh, h1.vs.ph.stay hs (fun j hj hx => ?_), fun w2 hs2 hc2 => ?_⟩
  · rcases hx with hx | rfl
    · exact (h1.ab j hx).2 (h1.vs.ch j hj)
    · exact h1.bc _ hpb (h1.vs.ch _ hj)
  · refine ⟨A, BV, C, I1, PS, WS.set kk ⟨[], []⟩, HS.set kk (.slice none 0 0), h1.left hs hi1 hp hv1 hs2 hc2, ?_, hm1.trans h3, by rw [List.length_set]; exact h4, fun V' hV' => ?_, ?_⟩
    · rw [List.map_set]
      exact hw1.mono (Nat.le_succ _) (Nat.le_succ _)
    · rcases mem_set hV' with rfl | hV'
      · exact ⟨Nat.zero_le _, by decide⟩
      · exact h5 V' hV'
    · refine h6.trans ((hs.mono (fun j hj => ?_)).trans (hs2.mono (fun j hj => (h1.lt j (.inr (.inr (h1.vs.ch j hj)))).1)))
      rcases hj with hj | rfl
      · exact (h1.lt j (.inl hj)).1
      · exact (h1.lt _ (.inr (.inl hpb))).1
/-- A view was taken. -/
def VMid (base : Nat) (w4 w : World) (x i k : Nat) (vv hv : Value) (p : Nat) : Prop :=
  ∃ (w0 : World) (A BV C : Nat → Prop) (I I1 : Im) (PS : List Nat) (WS : List Vw) (HS : List Value), Vst base A BV C w0 x I vv hv PS WS HS ∧ base ≤ w0.heap.size ∧ Stay A w0 w ∧ IxAt A w x I1 ∧ VAt (fun k => w0.heap.size ≤ k) w p ⟨I.A, I.LS.flatten⟩ ∧ Wf I1 (WS.map (·.Q) ++ [I.LS.flatten]) i i ∧ I1.mg = false ∧ I1.lists = I.lists ∧ WS.length = k ∧
    (∀ V ∈ WS, V.Q.length ≤ 40 ∧ sumL (listsS V.A V.Q) ≤ 40) ∧ (I.LS.flatten.length ≤ 40 ∧ sumL I.lists ≤ 40) ∧ Stay (fun k => base ≤ k) w4 w0
theorem VRel.view (h : VRel base w4 w x i k vv hv) (hi : i ≤ 40) (hk : k ≤ 40) :
    Calls Tryz.prog 22 #[.pointer (some ⟨x, 0, none⟩)] w fun y w' => ∃ p, y = .returned (.pointer (some ⟨p, 0, none⟩)) ∧ VMid base w4 w' x i k vv hv p := by
  have hb := h.big
  obtain ⟨A, BV, C, I, PS, WS, HS, h1, h2, h3, h4, h5, h6⟩ := h
  refine (view_law h1.ix h2 (by omega) (by omega) (by rw [List.length_map]; omega)).mono ?_
  rintro y w' ⟨p, I', rfl, hi1, hv1, hs, hw, hn, hm, hl⟩
  exact ⟨p, rfl, w, A, BV, C, I, I', PS, WS, HS, h1, hb, hs, hi1, hv1, hw, hm.trans h3, hl, h4, h5, ⟨by have := h2.tn; omega, by have := h2.en; omega⟩, h6⟩
theorem VMid.rows {p : Nat} (h : VMid base w4 w x i k vv hv p) (hi : i ≤ 40) : ∃ (PS : List Nat) (HS : List Value), PS.length = k ∧ HS.length = k ∧ CO 0 62 w vv (PS.map ptrV) ∧ CO 0 34 w hv HS ∧
    (∀ W, Stay (fun k => vv.ownBlock = some k) w W → Calls Tryz.prog 18 #[.pointer (some ⟨x, 0, none⟩), strV [], strV []] W fun y w' => ∃ (v : Value) (M : List En), y = .returned v ∧ EnO W.heap.size w' v M ∧ Stay (fun _ => False) W w' ∧
      ∀ (w6 : World) (vv' hv' : Value), Stay (fun k => vv.ownBlock = some k ∨ hv.ownBlock = some k) w w6 → CO 0 62 w6 vv' ((PS ++ [p]).map ptrV) → CO 0 34 w6 hv' (HS ++ [v]) → EnO 0 w6 v M → (∀ k, vv'.ownBlock = some k → vv.ownBlock = some k ∨ w.heap.size ≤ k) → (∀ k, hv'.ownBlock = some k → hv.ownBlock = some k ∨ w.heap.size ≤ k) → (∀ k, v.ownBlock = some k → w.heap.size ≤ k) → VRel base w4 w6 x (i + 1) (k + 1) vv' hv') := by
  obtain ⟨w0, A, BV, C, I, I1, PS, WS, HS, h1, hb, hs, hi1, hv1, hw, hm, hl, h4, h5, h7, h6⟩ := h
  have hold := h1.vs.stay hs h1.ab
  refine ⟨PS, HS, h1.vs.lp.trans h4, h1.vs.lh.trans h4, hold.pv, hold.ph, fun W hW => ?_⟩
  have hsz : Sz2 I1 := hw.sz (by omega) (by omega)
  refine (range_ix W x I1 [] [] (hi1.stay hW (fun k hk hx => (h1.ab k hk).2 (h1.vs.cv k hx))) hsz).mono ?_
  rintro y w' ⟨v, rfl, ho, hs'⟩
  rw [hl] at ho
  refine ⟨v, _, rfl, ho, hs', fun w6 vv' hv' hs6 hp6 hh6 hu6 hpb hhb hub => ?_⟩
  refine ⟨A, _, _, I1, PS ++ [p], WS ++ [⟨I.A, I.LS.flatten⟩], HS ++ [v], h1.took (V := ⟨I.A, I.LS.flatten⟩) hs hi1 hv1 hs6 hb hp6 hh6 hu6 hpb hhb hub, ?_, hm, by simp [h4], fun V hV => ?_, ?_⟩
  · rw [List.map_append]
    exact hw.mono (Nat.le_succ _) (Nat.le_succ _)
  · rcases List.mem_append.1 hV with hV | hV
    · exact h5 V hV
    · rw [List.mem_singleton] at hV
      subst hV
      exact h7
  · refine h6.trans ((hs.mono (fun k hk => (h1.lt k (.inl hk)).1)).trans (hs6.mono (fun k hk => ?_)))
    rcases hk with hk | hk
    · exact (h1.lt k (.inr (.inr (h1.vs.cv k hk)))).1
    · exact (h1.lt k (.inr (.inr (h1.vs.ch k hk)))).1
/-- Views alone, the first of them let go. -/
def VFin (base : Nat) (w4 w : World) (x k : Nat) (vv : Value) (kk : Nat) : Prop :=
  ∃ (A BV C : Nat → Prop) (I : Im) (PS : List Nat) (WS : List Vw), IxAt A w x I ∧ Wf I (WS.map (·.Q)) 40 40 ∧ PS.length = k ∧ WS.length = k ∧ CO 0 62 w vv (PS.map ptrV) ∧ PS.Nodup ∧ (∀ (j p : Nat) (V : Vw), PS[j]? = some p → WS[j]? = some V → VAt BV w p V) ∧ (∀ j, vv.ownBlock = some j → C j) ∧
    (∀ k, A k → ¬ BV k ∧ ¬ C k) ∧ (∀ k, BV k → ¬ C k) ∧ (∀ k, A k ∨ BV k → base ≤ k) ∧ (∀ j, j < kk → WS[j]? = some ⟨[], []⟩) ∧ Stay (fun k => base ≤ k) w4 w
theorem VRel.fin (h : VRel base w4 w x i k vv hv) (hi : i ≤ 40) : VFin base w4 w x k vv 0 := by
  obtain ⟨A, BV, C, I, PS, WS, HS, h1, h2, h3, h4, h5, h6⟩ := h
  exact ⟨A, BV, C, I, PS, WS, h1.ix, h2.mono hi hi, h1.vs.lp.trans h4, h4, h1.vs.pv, h1.vs.nd, h1.vs.vw, h1.vs.cv, h1.ab, h1.bc, fun k hk => (h1.lt k (hk.elim .inl (fun h => .inr (.inl h)))).1, fun j hj => absurd hj (Nat.not_lt_zero j), h6⟩
/-- One let go, once more. -/
def VOne (base : Nat) (w4 w : World) (x k : Nat) (vv : Value) (kk : Nat) (b : Bool) : Prop :=
  ∃ (A BV C : Nat → Prop) (I : Im) (PS : List Nat) (WS : List Vw), IxAt A w x I ∧ Wf I (WS.map (·.Q)) 40 40 ∧ PS.length = k ∧ WS.length = k ∧ CO 0 62 w vv (PS.map ptrV) ∧ PS.Nodup ∧ (∀ (j p : Nat) (V : Vw), PS[j]? = some p → WS[j]? = some V → VAt BV w p V) ∧ (∀ j, vv.ownBlock = some j → C j) ∧
    (∀ k, A k → ¬ BV k ∧ ¬ C k) ∧ (∀ k, BV k → ¬ C k) ∧ (∀ k, A k ∨ BV k → base ≤ k) ∧ (∀ j, (j < kk ∨ (b = true ∧ j = kk)) → WS[j]? = some ⟨[], []⟩) ∧ Stay (fun k => base ≤ k) w4 w
theorem VFin.one {kk : Nat} (h : VFin base w4 w x k vv kk) : VOne base w4 w x k vv kk false := by
  obtain ⟨A, BV, C, I, PS, WS, g1, g2, g3, g4, g5, g6, g7, g8, g9, g10, g11, g12, g13⟩ := h
  exact ⟨A, BV, C, I, PS, WS, g1, g2, g3, g4, g5, g6, g7, g8, g9, g10, g11, fun j hj => hj.elim (g12 j) (fun h => by cases h.1), g13⟩
theorem VOne.fin {kk : Nat} (h : VOne base w4 w x k vv kk true) : VFin base w4 w x k vv (kk + 1) := by
  obtain ⟨A, BV, C, I, PS, WS, g1, g2, g3, g4, g5, g6, g7, g8, g9, g10, g11, g12, g13⟩ := h
  exact ⟨A, BV, C, I, PS, WS, g1, g2, g3, g4, g5, g6, g7, g8, g9, g10, g11, fun j hj => g12 j (by
    rcases Nat.lt_succ_iff_lt_or_eq.1 hj with hj | hj
    · exact .inl hj
    · exact .inr ⟨rfl, hj⟩), g13⟩
theorem VOne.leave {kk : Nat} {b : Bool} (h : VOne base w4 w x k vv kk b) (hk : kk < k) (hk40 : k ≤ 40) : ∃ p gv cv, vv = .slice (some ⟨gv, 0, none⟩) k cv ∧ w.cell? ⟨gv, kk, none⟩ = some (.pointer (some ⟨p, 0, none⟩)) ∧
    Calls Tryz.prog 23 #[.pointer (some ⟨p, 0, none⟩)] w fun y w' => y = .returned (.tuple #[]) ∧ VOne base w4 w' x k vv kk true := by
  obtain ⟨A, BV, C, I, PS, WS, g1, g2, g3, g4, g5, g6, g7, g8, g9, g10, g11, g12, g13⟩ := h
  obtain ⟨p, hp⟩ : ∃ p, PS[kk]? = some p := ⟨_, List.getElem?_eq_getElem (by omega)⟩
  obtain ⟨V, hV⟩ : ∃ V, WS[kk]? = some V := ⟨_, List.getElem?_eq_getElem (by omega)⟩
  obtain ⟨gv, cv, rfl, _⟩ := g5.at (by rw [List.length_map]; omega)
  have g5' := g5
  rw [List.length_map, g3] at g5'
  refine ⟨p, gv, cv, by rw [List.length_map, g3], g5'.cell (j := kk) (by rw [List.getElem?_map, hp]; rfl), ?_⟩
  have hvp := g7 kk p V hp hV
  refine (release_law g1 g2 (by omega) (by omega) (by rw [List.length_map]; omega) hvp (by rw [List.getElem?_map, hV]; rfl) (fun k _ ha => (g9 k ha).1)).mono ?_
  rintro y w1 ⟨rfl, I1, hs, hi1, hv1, hw1, _⟩
  have hpb : BV p := hv1.bp
  have hty : Ty w p 119 := by
    obtain ⟨_, _, q1, _⟩ := hvp.ex
    exact ⟨_, _, q1⟩
  refine ⟨rfl, A, BV, C, I1, PS, WS.set kk ⟨[], []⟩, hi1, by rw [List.map_set]; exact hw1, g3, by rw [List.length_set]; exact g4, g5.stay hs (fun j hj hx => ?_), g6, fun j q V' h1 h2 => ?_, g8, g9, g10, g11, fun j hj => ?_, g13.trans (hs.mono (fun j hj => hj.elim (fun h => g11 j (.inl h)) (fun h => h ▸ g11 p (.inr hpb))))⟩
  · rcases hx with hx | rfl
    · exact (g9 j hx).2 (g8 j hj)
    · exact g10 _ hpb (g8 _ hj)
  · by_cases hik : j = kk
    · subst hik
      rw [hp] at h1
      cases h1
      rw [List.getElem?_set_self (by omega)] at h2
      cases h2
      exact hv1
    · rw [List.getElem?_set_ne (fun e => hik e.symm)] at h2
      refine (g7 j q V' h1 h2).keep hs (fun l hl hx => ?_)
      rcases hx with hx | rfl
      · exact absurd hl (g9 l hx).1
      · refine ⟨hty, fun e => hik ?_⟩
        subst e
        exact (List.getElem?_inj (List.getElem?_eq_some_iff.1 h1).1 g6).1 (h1.trans hp.symm)
  · by_cases hik : j = kk
    · subst hik
      exact List.getElem?_set_self (by omega)
    · rw [List.getElem?_set_ne (fun e => hik e.symm)]
      exact g12 j (.inl (hj.elim id (fun h => absurd h.2 hik)))
theorem VFin.done (h : VFin base w4 w x k vv k) : ∃ (A : Nat → Prop) (I : Im), IxAt A w x I ∧ Wf I [] 40 40 ∧ Stay (fun k => base ≤ k) w4 w := by
  obtain ⟨A, BV, C, I, PS, WS, g1, g2, g3, g4, g5, g6, g7, g8, g9, g10, g11, g12, g13⟩ := h
  refine ⟨A, I, g1, ⟨g2.ho, g2.sub, g2.nd, fun q hq => ?_, (fun V hV => by cases hV), (fun V hV => by cases hV), g2.en, g2.sm, g2.tn, g2.ln, g2.tt, g2.la⟩, g13⟩
  rw [g2.hc q hq]
  congr 1
  rw [occ_nil]
  unfold occ
  rw [List.sum_eq_zero_iff_forall_eq_nat]
  · intro y hy
    obtain ⟨V, hV, rfl⟩ := List.mem_map.1 hy
    obtain ⟨U, hU, rfl⟩ := List.mem_map.1 hV
    obtain ⟨j, hj⟩ := List.getElem?_of_mem hU
    have h2 := g12 j (by have := (List.getElem?_eq_some_iff.1 hj).1; omega)
    rw [hj] at h2
    cases h2
    rfl
end
end Go.Proofs.YtljlfdhjolcnaaaGreat.Ix
