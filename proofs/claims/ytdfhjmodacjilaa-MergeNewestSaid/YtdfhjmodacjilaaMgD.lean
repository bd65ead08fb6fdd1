/-
  merge: a pointer put behind others, taken off; the heap's Push and Pop.
-/
import Derived.Test.YtdfhjmodacjilaaMgC
namespace Go.Proofs.Ytdfhjmodacjilaa.Mg
open Go.RowKit Go.Maps Me
set_option maxRecDepth 100000
set_option linter.unusedVariables false

theorem info_ptr : (Try.prog.info? 48).map (fun i => (i.zero, i.size, i.bytes)) = some (some (.pointer none), 1, 8) := by kernel_rfl
section
variable {base : Nat} {w w' : World} {v : Value} {H : List Od}
theorem run_append_po (t ty : TypeId) (ht : Try.prog.underlying t = some (.slice 48)) (hown : PO base w v H) (g off c : Nat) (o : Od) (hc : w.cell? ⟨g, off, none⟩ = some (.pointer (some ⟨o.p, 0, none⟩))) (hlen : H.length ≤ 1000000) (hbase : base ≤ w.heap.size) :
    ∃ v' w', (Builtin.append_ #[t, t] ty #[v, .slice (some ⟨g, off, none⟩) 1 c]).run Try.prog w = .ok v' w' ∧ PO base w' v' (H ++ [o]) ∧ Stay (fun k => v.ownBlock = some k) w w' ∧ (v'.ownBlock = v.ownBlock ∨ v'.ownBlock = some w.heap.size) := by
  obtain ⟨i0, hi, hz, hsize, hby⟩ := info_parts info_ptr
  obtain ⟨v', w', h1, h2, h3, _, h5⟩ := run_append_own_at (P := Try.prog) w base t ty _ i0 (.pointer none) 1 8 ht hi hz hsize hby rfl (by decide) v H.length (cellsP H) hown ⟨g, off, none⟩ 1 c [.pointer (some ⟨o.p, 0, none⟩)] rfl
    (fun j u hu => by
      have hj : j = 0 := by
        have := (List.getElem?_eq_some_iff.1 hu).1
        simp at this
        omega
      subst hj
      simp at hu
      rw [← hu, add_at]
      exact hc) (fun u hu => by simp at hu; subst hu; rfl) (by unfold maxLen; omega) (by omega) hbase
  refine ⟨v', w', h1, ?_, Stay.grown h3 (fun k hk => hk), h5⟩
  unfold PO
  rw [List.length_append, List.length_singleton]
  have : cellsP (H ++ [o]) = cellsP H ++ [.pointer (some ⟨o.p, 0, none⟩)] := by simp [cellsP, ptrV]
  rw [this]
  exact h2
theorem step_append_po {ops : Array Oper} {o : Oper} {a : Act} {K : Act → World → Prop} {Q : Exit → Act → World → Prop} {E : Prop} (hgd : o.guard = none) (s y : Operand) (t : TypeId)
    (ho : o.op = .call { callee := .builtin .append, args := #[s, y], argTypes := #[t, t] }) (ht : Try.prog.underlying t = some (.slice 48)) (g off c : Nat) (od : Od) (hs : a.eval s = v) (hy : a.eval y = .slice (some ⟨g, off, none⟩) 1 c) (hown : PO base w v H) (hc : w.cell? ⟨g, off, none⟩ = some (.pointer (some ⟨od.p, 0, none⟩))) (hlen : H.length ≤ 1000000) (hbase : base ≤ w.heap.size)
    (h : ∀ v' w', PO base w' v' (H ++ [od]) → Stay (fun k => v.ownBlock = some k) w w' → (v'.ownBlock = v.ownBlock ∨ v'.ownBlock = some w.heap.size) → K (a.put o.dst v') w') :
    if Region.wanted o (yielded ops a.tmps) = true then Oper.wp Try.prog o a w K Q else E := by
  have hw : Region.wanted o (yielded ops a.tmps) = true := by simp [Region.wanted, hgd]
  rw [if_pos hw]
  obtain ⟨v', w', hrun, h2, h3, h4⟩ := run_append_po t o.type ht hown g off c od hc hlen hbase
  unfold Oper.wp execOp
  simp only [ho, resolve, invoke, builtin, Sem.run_bind, Sem.run_pure, Result.andThen_ok, List.map_toArray, List.map_cons, List.map_nil, hs, hy, hrun]
  exact h v' w' h2 h3 h4
end

theorem PO.tyb {base : Nat} {w : World} {v : Value} {H : List Od} (h : PO base w v H) : ∀ k, v.ownBlock = some k → ∃ cs fr, w.heap[k]? = some (.cells cs 48 fr) := by
  intro k hk
  rcases h.2 with ⟨e, _⟩ | ⟨g', cap, cur, e, h4, hg, _⟩
  · rw [e] at hk; cases hk
  · rw [e] at hk
    have hk' : g' = k := Option.some.inj hk
    subst hk'
    exact ⟨_, _, hg⟩
/-- A reader whose row of pointers was laid anew. -/
theorem RdAt.reset {A : Nat → Prop} {w w1 : World} {r : Nat} {H H' : List Od} {v v1 : Value} (h : RdAt A w r H) (hr : w.heap[r]? = some (.cells #[v] 45 (0, 0))) (hP : PO 0 w v H) (hv : ∀ k, v.ownBlock = some k → A k)
    (hs : Stay (fun k => v.ownBlock = some k) w w1) (hO : PO 0 w1 v1 H') (hb : v1.ownBlock = v.ownBlock ∨ ∀ k, v1.ownBlock = some k → w.heap.size ≤ k)
    (hod : ∀ q ∈ H', OdAt w q ∧ A q.p ∧ q.l ≠ [] ∧ ∀ k, q.v.ownBlock = some k → A k) (hnd : (H'.map (·.p)).Nodup) :
    RdAt (fun k => A k ∨ w.heap.size ≤ k) (w1.setCell ⟨r, 0, none⟩ v1) r H' ∧ Stay A w (w1.setCell ⟨r, 0, none⟩ v1) := by
  have hrl := h.lt
  have hvr : ∀ k, v.ownBlock = some k → k ≠ r := fun k hk => by
    obtain ⟨cs, fr, hg⟩ := hP.tyb k hk
    exact ne_ty hg hr (by decide)
  have hr1 : w1.heap[r]? = some (.cells #[v] 45 (0, 0)) := (hs.block r hrl (fun hk => hvr r hk rfl)).trans hr
  have hst : Stay (fun k => v.ownBlock = some k ∨ k = r) w (w1.setCell ⟨r, 0, none⟩ v1) := (hs.mono (fun k hk => .inl hk)).trans (Stay.setCell _ _ _ (.inr rfl))
  refine ⟨⟨⟨v1, ?_, hO.stay (Stay.setCell (X := (· = r)) _ _ _ (by rfl)) (fun k hk => ?_), fun k hk => ?_⟩, fun q hq => ?_, hnd, .inl h.rr⟩, hst.mono (fun k hk => ?_)⟩
  · rw [heap_setCell_same w1 r 0 _ _ _ hr1]
    rfl
  · rcases hb with e | hb
    · rw [e] at hk; exact hvr k hk
    · have := hb k hk
      intro e
      omega
  · rcases hb with e | hb
    · rw [e] at hk; exact .inl (hv k hk)
    · exact .inr (hb k hk)
  · obtain ⟨h4, h5, h6, h7⟩ := hod q hq
    refine ⟨h4.stay hst (fun hk => ?_) (fun k hk hx => ?_), .inl h5, h6, fun k hk => .inl (h7 k hk)⟩
    · rcases hk with hk | hk
      · obtain ⟨cs, fr, hg⟩ := hP.tyb _ hk
        exact ne_ty h4.g hg (by decide) rfl
      · exact ne_ty h4.g hr (by decide) hk
    · obtain ⟨cs, fr, hg⟩ := h4.e.2 k hk
      rcases hx with hx | hx
      · obtain ⟨cs', fr', hg'⟩ := hP.tyb _ hx
        exact ne_ty hg hg' (by decide) rfl
      · exact ne_ty hg hr (by decide) hx
  · rcases hk with hk | rfl
    · exact hv k hk
    · exact h.rr
theorem run_ta (w : World) (p : Nat) : (Instr.typeAssert (.iface 48 (.pointer (some ⟨p, 0, none⟩))) 20 48 false).run Try.prog w = .ok (.pointer (some ⟨p, 0, none⟩)) w := by kernel_rfl
set_option maxHeartbeats 1000000 in
theorem opush_any (A : Nat → Prop) (w : World) (r : Nat) (H : List Od) (o : Od) (h : RdAt A w r H) (ho : OdAt w o) (hA : A o.p) (hl : o.l ≠ []) (hb : ∀ k, o.v.ownBlock = some k → A k) (hnd : ∀ q ∈ H, q.p ≠ o.p) (hlen : H.length ≤ 1000000) :
    Calls Try.prog 43 #[.pointer (some ⟨r, 0, none⟩), .iface 48 (.pointer (some ⟨o.p, 0, none⟩))] w fun e w' => e = .returned (.tuple #[]) ∧ RdAt (fun k => A k ∨ w.heap.size ≤ k) w' r (H ++ [o]) ∧ Stay A w w' := by
  have HR := Lib.hid h
  obtain ⟨v, hr, hP, hv⟩ := h.ex
  have HP := Lib.hid hP
  have HV := Lib.hid hv
  have HG := Lib.hid hr
  have c0 : w.cell? ⟨r, 0, none⟩ = some v := by rw [cell_of_row w r 0 _ _ _ hr]; rfl
  have f0 := frozen_of_row w r 0 _ _ hr
  obtain ⟨a0, c, rfl⟩ := hP.form
  have HRO := Lib.hid (show ¬ (Value.slice a0 H.length c).ownBlock = some r from fun hk => by
    obtain ⟨cs, fr, hg⟩ := hP.tyb _ hk
    exact ne_ty hr hg (by decide) rfl)
  clear hP hr hv h
  have hta := fun (w : World) => run_ta w o.p
  have hrl := HR.out.lt
  have hrn : ¬ r = w.heap.size := by omega
  go_enter Try.func43, Try.ntmps43
  go_wp2
  go_region_law (refine step_append_po rfl (.tmp 7) (.tmp 10) 43 rfl Try.underlying43 w.heap.size 0 1 o rfl rfl ((HP.out.stay0 Stay.drew).stay0 (Stay.alloc _ _)) (by simp) hlen (by simp) ?_; intro v1 w1 hown1 hs1 hb1; have HS1 := Lib.hid ((Stay.drew.trans (Stay.alloc _ _)).trans hs1); have HO1 := Lib.hid hown1; have HB1 := Lib.hid hb1; have hr1 := (HS1.out.block r HR.out.lt HRO.out).trans HG.out; have d0 := cell_of_row w1 r 0 _ _ _ hr1; have f1 := frozen_of_row w1 r 0 _ _ hr1; have HG1 := Lib.hid hr1; obtain ⟨b1, c1, rfl⟩ := hown1.form; clear hown1 hs1 hb1 hr1)
  all_goals
    have hE : Value.slice b1 (H.length + 1) c1 = Value.slice b1 (H ++ [o]).length c1 := by rw [List.length_append, List.length_singleton]
    rw [hE]
    obtain ⟨k1, k2⟩ := HR.out.reset HG.out HP.out HV.out HS1.out HO1.out (HB1.out.imp (fun e => e) (fun e k hk => by rw [e] at hk; simp at hk; omega)) (fun q hq => by
      rcases List.mem_append.1 hq with hq | hq
      · exact HR.out.od q hq
      · rw [List.mem_singleton.1 hq]; exact ⟨ho, hA, hl, hb⟩) (by
      rw [List.map_append, List.nodup_append]
      refine ⟨HR.out.nd, by simp, fun a ha b hb' => ?_⟩
      obtain ⟨q, hq, rfl⟩ := List.mem_map.1 ha
      simp at hb'
      rw [hb']
      exact hnd q hq)
    exact bodyPost_end (results_none rfl _ _ _) rfl ⟨rfl, k1, k2⟩
end Go.Proofs.Ytdfhjmodacjilaa.Mg
