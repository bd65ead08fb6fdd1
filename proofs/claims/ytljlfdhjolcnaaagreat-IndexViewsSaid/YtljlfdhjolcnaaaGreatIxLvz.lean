/-
  index: views as the laws want them.
-/
import Derived.Test.YtljlfdhjolcnaaaGreatIxLpz
import Derived.Test.YtljlfdhjolcnaaaGreatIxVwz
namespace Go.Proofs.YtljlfdhjolcnaaaGreat.Ix
open Go.RowKit Go.Maps Me Mg
set_option maxRecDepth 100000
set_option linter.unusedVariables false
set_option linter.unusedSimpArgs false

theorem occ_snoc (VS : List (List Sh)) (Q : List Sh) (s : Nat) : occ (VS ++ [Q]) s = occ VS s + (Q.map (·.s)).count s := by
  unfold occ
  simp
theorem occ_set : ∀ {VS : List (List Sh)} {k : Nat} {Q : List Sh} (s : Nat), VS[k]? = some Q → occ (VS.set k []) s + (Q.map (·.s)).count s = occ VS s
  | [], k, Q, s, h => by simp at h
  | V :: r, 0, Q, s, h => by
    simp at h
    subst h
    unfold occ
    simp
    omega
  | V :: r, k + 1, Q, s, h => by
    have h1 := occ_set (VS := r) (k := k) s (by simpa using h)
    unfold occ at h1 ⊢
    simp only [List.set_cons_succ, List.map_cons, List.sum_cons]
    omega
theorem mem_set {α : Type} {L : List α} {k : Nat} {x y : α} (h : y ∈ L.set k x) : y = x ∨ y ∈ L := (List.mem_or_eq_of_mem_set h).symm
section
variable {A : Nat → Prop} {w : World} {x : Nat} {I : Im} {VS : List (List Sh)} {e t : Nat}
theorem Wf.look (h : Wf I VS e t) : Wf (I.holds (I.LS.flatten.map (·.s))) (VS ++ [I.LS.flatten]) e t := by
  obtain ⟨g1, g2, g3, _⟩ := holds_same (I.LS.flatten.map (·.s)) I
  have hl : (I.holds (I.LS.flatten.map (·.s))).lists = I.lists := by rw [lists_cons, lists_cons, g2, g3]
  refine ⟨HdOk.holds _ h.ho (fun s hs => ?_), ?_, ?_, fun q hq => ?_, fun V hV q hq => ?_, fun V hV => ?_, ?_, ?_, ?_, ?_, ?_, ?_⟩
  · obtain ⟨q, hq, rfl⟩ := List.mem_map.1 hs
    exact List.mem_map_of_mem (h.sub q hq)
  · rw [g1, g2]
    exact h.sub
  · rw [g2]
    exact h.nd
  · rw [g1] at hq
    rw [holds_hc, h.hc q hq, occ_snoc, g2]
    omega
  · rw [g1]
    rcases List.mem_append.1 hV with hV | hV
    · exact h.vs V hV q hq
    · rw [List.mem_singleton] at hV
      subst hV
      exact h.sub q hq
  · rcases List.mem_append.1 hV with hV | hV
    · exact h.vn V hV
    · rw [List.mem_singleton] at hV
      subst hV
      exact h.nd
  · rw [hl]
    exact h.en
  · rw [hl]
    exact h.sm
  · rw [g2]
    exact h.tn
  · rw [g2]
    exact h.ln
  · rw [g1]
    exact h.tt
  · rw [g2]
    exact h.la
theorem Wf.leave (h : Wf I VS e t) {k : Nat} {Q : List Sh} (hk : VS[k]? = some Q) : Wf (I.rels (Q.map (·.s))) (VS.set k []) e t := by
  obtain ⟨g1, g2, g3, _⟩ := rels_same (Q.map (·.s)) I
  have hQ := List.mem_of_getElem? hk
  have hl : (I.rels (Q.map (·.s))).lists = I.lists := by rw [lists_cons, lists_cons, g2, g3]
  have h1 : ∀ q ∈ Q, 1 ≤ I.hc q.s := fun q hq => by
    rw [h.hc q (h.vs Q hQ q hq), ← occ_set q.s hk]
    have : 1 ≤ (Q.map (·.s)).count q.s := List.count_pos_iff.2 (List.mem_map_of_mem hq)
    omega
  refine ⟨HdOk.rels _ h.ho (h.vn Q hQ) (fun s hs => ?_) (fun s hs => ?_), ?_, ?_, fun q hq => ?_, fun V hV q hq => ?_, fun V hV => ?_, ?_, ?_, ?_, ?_, ?_, ?_⟩
  · obtain ⟨q, hq, rfl⟩ := List.mem_map.1 hs
    exact List.mem_map_of_mem (h.vs Q hQ q hq)
  · obtain ⟨q, hq, rfl⟩ := List.mem_map.1 hs
    exact h1 q hq
  · rw [g1, g2]
    exact h.sub
  · rw [g2]
    exact h.nd
  · rw [g1] at hq
    have h2 := occ_set q.s hk
    rw [rels_cnt, h.hc q hq, g2]
    omega
  · rw [g1]
    rcases mem_set hV with rfl | hV
    · cases hq
    · exact h.vs V hV q hq
  · rcases mem_set hV with rfl | hV
    · simp
    · exact h.vn V hV
  · rw [hl]
    exact h.en
  · rw [hl]
    exact h.sm
  · rw [g2]
    exact h.tn
  · rw [g2]
    exact h.ln
  · rw [g1]
    exact h.tt
  · rw [g2]
    exact h.la
theorem view_law (h : IxAt A w x I) (hw : Wf I VS e t) (he : e ≤ 300) (ht : t ≤ 800) (hv : VS.length ≤ 700) :
    Calls Tryz.prog 22 #[.pointer (some ⟨x, 0, none⟩)] w fun y w' => ∃ p I', y = .returned (.pointer (some ⟨p, 0, none⟩)) ∧ IxAt A w' x I' ∧ VAt (fun k => w.heap.size ≤ k) w' p ⟨I.A, I.LS.flatten⟩ ∧ Stay A w w' ∧ Wf I' (VS ++ [I.LS.flatten]) e t ∧ Nx I I' ∧ I'.mg = I.mg ∧ I'.lists = I.lists := by
  refine (view_ix w x I h (by have := hw.ln; omega) (by have := hw.tn; omega) (by have := hw.aLen; omega) hw.sub (fun q hq => by have := hw.hcl (hw.sub q hq); omega) (by have := hw.hd; omega)).mono ?_
  rintro y w' ⟨p, rfl, h1, h2, h3⟩
  obtain ⟨g1, g2, g3, g4, g5, g6, g7, g8, g9⟩ := holds_same (I.LS.flatten.map (·.s)) I
  exact ⟨p, _, rfl, h1, h2, h3, hw.look, ⟨g4, g5, g6, g7, g8, fun q hq => by rw [g1]; exact hq⟩, g9, by rw [lists_cons, lists_cons, g2, g3]⟩
theorem release_law {BV : Nat → Prop} {p k : Nat} {V : Vw} (h : IxAt A w x I) (hw : Wf I VS e t) (he : e ≤ 300) (ht : t ≤ 800) (hvl : VS.length ≤ 700) (hv : VAt BV w p V) (hk : VS[k]? = some V.Q) (hd : ∀ k, k < w.heap.size → A k → ¬ BV k) :
    Calls Tryz.prog 23 #[.pointer (some ⟨p, 0, none⟩)] w fun y w' => y = .returned (.tuple #[]) ∧ ∃ I', Stay (fun k => A k ∨ k = p) w w' ∧ IxAt A w' x I' ∧ VAt BV w' p ⟨[], []⟩ ∧ Wf I' (VS.set k []) e t ∧ Nx I I' ∧ I'.mg = I.mg ∧ I'.lists = I.lists ∧ I'.LS = I.LS := by
  have hQ := List.mem_of_getElem? hk
  have h1 : ∀ q ∈ V.Q, 1 ≤ I.hc q.s := fun q hq => by
    rw [hw.hc q (hw.vs _ hQ q hq), ← occ_set q.s hk]
    have : 1 ≤ (V.Q.map (·.s)).count q.s := List.count_pos_iff.2 (List.mem_map_of_mem hq)
    omega
  refine (release_ix w x p I V h hv hd (hw.vs _ hQ) (hw.vn _ hQ) (fun q hq => ⟨h1 q hq, by have := hw.hcl (hw.vs _ hQ q hq); omega⟩) (by have := hw.hd; omega) (by rw [hw.ho.hd]; exact cnt_le (hw.vn _ hQ) (hw.vs _ hQ) h1)).mono ?_
  rintro y w' ⟨rfl, h2, h3, h4⟩
  obtain ⟨g1, g2, g3, g4, g5, g6, g7, g8, g9⟩ := rels_same (V.Q.map (·.s)) I
  exact ⟨rfl, _, h2, h3, h4, hw.leave hk, ⟨g4, g5, g6, g7, g8, fun q hq => by rw [g1]; exact hq⟩, g9, by rw [lists_cons, lists_cons, g2, g3], g2⟩
end

/-! The views of a law, beside an index. -/
/-- Views in one row, what each had in another one. -/
structure VwS (BV C : Nat → Prop) (w : World) (vv hv : Value) (PS : List Nat) (WS : List Vw) (HS : List Value) : Prop where
  lp : PS.length = WS.length
  lh : HS.length = WS.length
  pv : CO 0 62 w vv (PS.map ptrV)
  ph : CO 0 34 w hv HS
  nd : PS.Nodup
  vw : ∀ (k p : Nat) (V : Vw), PS[k]? = some p → WS[k]? = some V → VAt BV w p V
  hd : ∀ (k : Nat) (u : Value) (V : Vw), HS[k]? = some u → WS[k]? = some V → EnO 0 w u (askL (listsS V.A V.Q) [] []) ∧ ∀ j, u.ownBlock = some j → C j
  cv : ∀ j, vv.ownBlock = some j → C j
  ch : ∀ j, hv.ownBlock = some j → C j
/-- An index, and views of it. -/
structure Vst (base : Nat) (A BV C : Nat → Prop) (w : World) (x : Nat) (I : Im) (vv hv : Value) (PS : List Nat) (WS : List Vw) (HS : List Value) : Prop where
  ix : IxAt A w x I
  vs : VwS BV C w vv hv PS WS HS
  ab : ∀ k, A k → ¬ BV k ∧ ¬ C k
  bc : ∀ k, BV k → ¬ C k
  lt : ∀ k, A k ∨ BV k ∨ C k → base ≤ k ∧ k < w.heap.size
theorem VwS.stay {BV C X : Nat → Prop} {w w' : World} {vv hv : Value} {PS : List Nat} {WS : List Vw} {HS : List Value} (h : VwS BV C w vv hv PS WS HS) (hs : Stay X w w') (hX : ∀ k, X k → ¬ BV k ∧ ¬ C k) : VwS BV C w' vv hv PS WS HS :=
  ⟨h.lp, h.lh, h.pv.stay hs (fun k hk hx => (hX k hx).2 (h.cv k hk)), h.ph.stay hs (fun k hk hx => (hX k hx).2 (h.ch k hk)), h.nd, fun k p V h1 h2 => (h.vw k p V h1 h2).stay hs (fun j hj hx => (hX j hx).1 hj), fun k u V h1 h2 => by
    obtain ⟨k1, k2⟩ := h.hd k u V h1 h2
    exact ⟨k1.stay hs (fun j hj hx => (hX j hx).2 (k2 j hj)), k2⟩, h.cv, h.ch⟩
section
variable {base : Nat} {A BV C : Nat → Prop} {w : World} {x : Nat} {I : Im} {vv hv : Value} {PS : List Nat} {WS : List Vw} {HS : List Value}
theorem Vst.stay0 (h : Vst base A BV C w x I vv hv PS WS HS) {w' : World} (hs : Stay (fun _ => False) w w') : Vst base A BV C w' x I vv hv PS WS HS :=
  ⟨h.ix.stay0 hs, h.vs.stay hs (fun _ x => x.elim), h.ab, h.bc, fun k hk => ⟨(h.lt k hk).1, Nat.lt_of_lt_of_le (h.lt k hk).2 hs.size⟩⟩
/-- The index alone goes on. -/
theorem Vst.index (h : Vst base A BV C w x I vv hv PS WS HS) {w' : World} {X A2 : Nat → Prop} {I' : Im} (hs : Stay X w w') (hX : ∀ k, k < w.heap.size → X k → A k) (hi : IxAt A2 w' x I') (hA : ∀ k, k < w'.heap.size → A2 k → A k ∨ w.heap.size ≤ k) (hb : base ≤ w.heap.size) :
    Vst base (fun k => A k ∨ (w.heap.size ≤ k ∧ k < w'.heap.size)) BV C w' x I' vv hv PS WS HS := by
  have hs2 : Stay A w w' := ⟨hs.os, hs.tape, hs.output, hs.size, fun k hk hx => hs.block k hk (fun h2 => hx (hX k hk h2))⟩
  refine ⟨hi.mono (fun k hk h2 => (hA k hk h2).imp id (fun h3 => ⟨h3, hk⟩)), h.vs.stay hs2 h.ab, fun k hk => ?_, h.bc, fun k hk => ?_⟩
  · rcases hk with hk | hk
    · exact h.ab k hk
    · exact ⟨fun h2 => by have := (h.lt k (.inr (.inl h2))).2; omega, fun h2 => by have := (h.lt k (.inr (.inr h2))).2; omega⟩
  · have hz := hs.size
    rcases hk with (hk | hk) | hk
    · have := h.lt k (.inl hk)
      omega
    · omega
    · have := h.lt k (.inr hk)
      omega
theorem Vst.did (h : Vst base A BV C w x I vv hv PS WS HS) {w' : World} {I' : Im} {VS : List (List Sh)} {e t : Nat} (hd : Did A w w' x I I' VS e t) (hb : base ≤ w.heap.size) : Vst base (fun k => A k ∨ (w.heap.size ≤ k ∧ k < w'.heap.size)) BV C w' x I' vv hv PS WS HS :=
  h.index hd.st (fun _ _ h => h) hd.ix (fun _ _ h => h) hb
/-- A view more. -/
theorem Vst.took (h : Vst base A BV C w x I vv hv PS WS HS) {w1 w6 : World} {I1 : Im} {p : Nat} {V : Vw} {u vv' hv' : Value} (hs : Stay A w w1) (hi : IxAt A w1 x I1) (hv1 : VAt (fun k => w.heap.size ≤ k) w1 p V) (hs6 : Stay (fun k => vv.ownBlock = some k ∨ hv.ownBlock = some k) w1 w6) (hb : base ≤ w.heap.size)
    (hp6 : CO 0 62 w6 vv' ((PS ++ [p]).map ptrV)) (hh6 : CO 0 34 w6 hv' (HS ++ [u])) (hu6 : EnO 0 w6 u (askL (listsS V.A V.Q) [] [])) (hpb : ∀ k, vv'.ownBlock = some k → vv.ownBlock = some k ∨ w1.heap.size ≤ k) (hhb : ∀ k, hv'.ownBlock = some k → hv.ownBlock = some k ∨ w1.heap.size ≤ k) (hub : ∀ k, u.ownBlock = some k → w1.heap.size ≤ k) :
    Vst base A (fun k => BV k ∨ (w.heap.size ≤ k ∧ k < w1.heap.size)) (fun k => C k ∨ (w1.heap.size ≤ k ∧ k < w6.heap.size)) w6 x I1 vv' hv' (PS ++ [p]) (WS ++ [V]) (HS ++ [u]) := by
  have hpp : w.heap.size ≤ p := hv1.bp
  have hz1 := hs.size
  have hz6 := hs6.size
  have hold := h.vs.stay hs h.ab
  have hxc : ∀ k, (vv.ownBlock = some k ∨ hv.ownBlock = some k) → C k := fun k hk => hk.elim (h.vs.cv k) (h.vs.ch k)
  refine ⟨hi.stay hs6 (fun k hk hx => (h.ab k hk).2 (hxc k hx)), ⟨by simp [h.vs.lp], by simp [h.vs.lh], hp6, hh6, ?_, fun k q V' h1 h2 => ?_, fun k u' V' h1 h2 => ?_, fun j hj => ?_, fun j hj => ?_⟩, fun k hk => ⟨fun h2 => ?_, fun h2 => ?_⟩, fun k h2 h3 => ?_, fun k hk => ?_⟩
  · rw [List.nodup_append]
    refine ⟨h.vs.nd, by simp, fun a ha b hb' e => ?_⟩
    rw [List.mem_singleton] at hb'
    subst hb'
    subst e
    obtain ⟨k, hk⟩ := List.getElem?_of_mem ha
    obtain ⟨V', hV'⟩ : ∃ V', WS[k]? = some V' := ⟨_, List.getElem?_eq_getElem (by rw [← h.vs.lp]; exact (List.getElem?_eq_some_iff.1 hk).1)⟩
    have := (h.vs.vw k a V' hk hV').lt
    omega
  · by_cases hk : k < PS.length
    · rw [List.getElem?_append_left hk] at h1
      rw [List.getElem?_append_left (by rw [← h.vs.lp]; exact hk)] at h2
      exact ((hold.vw k q V' h1 h2).stay hs6 (fun j hj hc => h.bc j hj (hxc j hc))).mono (fun j _ hj => .inl hj)
    · rw [List.getElem?_append_right (by omega)] at h1
      rw [List.getElem?_append_right (by rw [← h.vs.lp]; omega)] at h2
      have hk0 : k - PS.length = 0 := by
        have := (List.getElem?_eq_some_iff.1 h1).1
        simp at this
        omega
      rw [hk0] at h1
      rw [← h.vs.lp, hk0] at h2
      simp at h1 h2
      subst h1
      subst h2
      refine ((hv1.mono (B' := fun k => w.heap.size ≤ k ∧ k < w1.heap.size) (fun j hj hb' => ⟨hb', hj⟩)).stay hs6 (fun j hj hc => ?_)).mono (fun j _ hj => .inr hj)
      have := (h.lt j (.inr (.inr (hxc j hc)))).2
      omega
  · by_cases hk : k < HS.length
    · rw [List.getElem?_append_left hk] at h1
      rw [List.getElem?_append_left (by rw [← h.vs.lh]; exact hk)] at h2
      obtain ⟨g1, g2⟩ := hold.hd k u' V' h1 h2
      refine ⟨g1.stay hs6 (fun j hj hx => ?_), fun j hj => .inl (g2 j hj)⟩
      have ht := (show Ty w1 j 42 from (Mg.EnO.ent g1).2 j hj)
      rcases hx with hx | hx
      · exact absurd (ht.uniq (hold.pv.ty j hx)) (by decide)
      · exact absurd (ht.uniq (hold.ph.ty j hx)) (by decide)
    · rw [List.getElem?_append_right (by omega)] at h1
      rw [List.getElem?_append_right (by rw [← h.vs.lh]; omega)] at h2
      have hk0 : k - HS.length = 0 := by
        have := (List.getElem?_eq_some_iff.1 h1).1
        simp at this
        omega
      rw [hk0] at h1
      rw [← h.vs.lh, hk0] at h2
      simp at h1 h2
      subst h1
      subst h2
      exact ⟨hu6, fun j hj => .inr ⟨hub j hj, (hu6.lt j hj).2⟩⟩
  · rcases hpb j hj with h1 | h1
    · exact .inl (h.vs.cv j h1)
    · exact .inr ⟨h1, (hp6.lt j hj).2⟩
  · rcases hhb j hj with h1 | h1
    · exact .inl (h.vs.ch j h1)
    · exact .inr ⟨h1, (hh6.lt j hj).2⟩
  · rcases h2 with h2 | h2
    · exact (h.ab k hk).1 h2
    · have := (h.lt k (.inl hk)).2
      omega
  · rcases h2 with h2 | h2
    · exact (h.ab k hk).2 h2
    · have := (h.lt k (.inl hk)).2
      omega
  · rcases h2 with h2 | h2
    · rcases h3 with h3 | h3
      · exact h.bc k h2 h3
      · have := (h.lt k (.inr (.inl h2))).2
        omega
    · rcases h3 with h3 | h3
      · have := (h.lt k (.inr (.inr h3))).2
        omega
      · omega
  · rcases hk with hk | (hk | hk) | (hk | hk)
    · have := h.lt k (.inl hk)
      omega
    · have := h.lt k (.inr (.inl hk))
      omega
    · omega
    · have := h.lt k (.inr (.inr hk))
      omega
    · omega
theorem ask_nil : askL (listsS [] []) [] [] = [] := by decide
/-- A view let go, what it had told as nothing. -/
theorem Vst.left (h : Vst base A BV C w x I vv hv PS WS HS) {w1 w2 : World} {I1 : Im} {p k : Nat} (hs : Stay (fun k => A k ∨ k = p) w w1) (hi : IxAt A w1 x I1) (hk : PS[k]? = some p) (hv1 : VAt BV w1 p ⟨[], []⟩) (hs2 : Stay (fun k => hv.ownBlock = some k) w1 w2)
    (hh2 : CO 0 34 w2 hv (HS.set k (.slice none 0 0))) : Vst base A BV C w2 x I1 vv hv PS (WS.set k ⟨[], []⟩) (HS.set k (.slice none 0 0)) := by
  have hlen := (List.getElem?_eq_some_iff.1 hk).1
  have hpb : BV p := hv1.bp
  have hty : Ty w p 119 := by
    obtain ⟨V, hV⟩ : ∃ V, WS[k]? = some V := ⟨_, List.getElem?_eq_getElem (by rw [← h.vs.lp]; exact hlen)⟩
    obtain ⟨_, _, h1, _⟩ := (h.vs.vw k p V hk hV).ex
    exact ⟨_, _, h1⟩
  have hcx : ∀ j, (A j ∨ j = p) → ¬ C j := fun j hj => by
    rcases hj with hj | rfl
    · exact (h.ab j hj).2
    · exact h.bc _ hpb
  have hpv1 := h.vs.pv.stay hs (fun j hj hx => hcx j hx (h.vs.cv j hj))
  refine ⟨hi.stay hs2 (fun j hj hx => (h.ab j hj).2 (h.vs.ch j hx)), ⟨by rw [List.length_set]; exact h.vs.lp, by rw [List.length_set, List.length_set]; exact h.vs.lh, ?_, hh2, h.vs.nd, fun i q V h1 h2 => ?_, fun i u V h1 h2 => ?_, h.vs.cv, h.vs.ch⟩, h.ab, h.bc, fun j hj => ⟨(h.lt j hj).1, Nat.lt_of_lt_of_le (h.lt j hj).2 (Nat.le_trans hs.size hs2.size)⟩⟩
  · refine hpv1.stay hs2 (fun j hj hx => ?_)
    have h3 := hpv1.ty j hj
    have h4 := (h.vs.ph.stay hs (fun j hj hx => hcx j hx (h.vs.ch j hj))).ty j hx
    exact absurd (h3.uniq h4) (by decide)
  · have hBC : ∀ j, BV j → ¬ hv.ownBlock = some j := fun j hj hx => h.bc j hj (h.vs.ch j hx)
    by_cases hik : i = k
    · subst hik
      rw [hk] at h1
      cases h1
      rw [List.getElem?_set_self (by rw [← h.vs.lp]; exact hlen)] at h2
      cases h2
      exact hv1.stay hs2 hBC
    · rw [List.getElem?_set_ne (fun e => hik e.symm)] at h2
      refine ((h.vs.vw i q V h1 h2).keep hs (fun j hj hx => ?_)).stay hs2 hBC
      rcases hx with hx | rfl
      · exact absurd hj (h.ab j hx).1
      · refine ⟨hty, fun e => hik ?_⟩
        subst e
        exact (List.getElem?_inj (List.getElem?_eq_some_iff.1 h1).1 h.vs.nd).1 (h1.trans hk.symm)
  · by_cases hik : i = k
    · subst hik
      rw [List.getElem?_set_self (by rw [h.vs.lh, ← h.vs.lp]; exact hlen)] at h1
      rw [List.getElem?_set_self (by rw [← h.vs.lp]; exact hlen)] at h2
      cases h1
      cases h2
      rw [ask_nil]
      exact ⟨EnO.nil _ _, fun j hj => by cases hj⟩
    · rw [List.getElem?_set_ne (fun e => hik e.symm)] at h1 h2
      obtain ⟨g1, g2⟩ := h.vs.hd i u V h1 h2
      have g3 := g1.stay hs (fun j hj hx => hcx j hx (g2 j hj))
      refine ⟨g3.stay hs2 (fun j hj hx => ?_), g2⟩
      have ht := (show Ty w1 j 42 from (Mg.EnO.ent g3).2 j hj)
      have h4 := (h.vs.ph.stay hs (fun j hj hx => hcx j hx (h.vs.ch j hj))).ty j hx
      exact absurd (ht.uniq h4) (by decide)
end
end Go.Proofs.YtljlfdhjolcnaaaGreat.Ix
