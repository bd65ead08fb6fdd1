/-
  index, plain: what holds behind a merge.
-/
import Derived.Test.YtljlfdhjolcnaaaGreatIxWfz
namespace Go.Proofs.YtljlfdhjolcnaaaGreat.Ix
open Go.RowKit Go.Maps Me Mg
set_option maxRecDepth 100000
set_option linter.unusedVariables false
set_option linter.unusedSimpArgs false

theorem rels_cnt : ∀ (ss : List Nat) (I : Im) (k : Nat), (I.rels ss).hc k = I.hc k - ss.count k
  | [], I, k => rfl
  | s :: r, I, k => by
    rw [show (I.rels (s :: r)).hc k = ((I.rel s).rels r).hc k from rfl, rels_cnt r (I.rel s) k, List.count_cons]
    show (if k = s then I.hc k - 1 else I.hc k) - r.count k = _
    by_cases h : k = s
    · rw [if_pos h, if_pos (by simp [h])]
      omega
    · rw [if_neg h, if_neg (by simpa using fun e => h e.symm)]
      omega
theorem HdOk.rels : ∀ (ss : List Nat) {I : Im}, HdOk I → ss.Nodup → (∀ s ∈ ss, s ∈ I.T.map (·.s)) → (∀ s ∈ ss, 1 ≤ I.hc s) → HdOk (I.rels ss)
  | [], I, h, _, _, _ => h
  | s :: r, I, h, hn, hT, h1 => by
    rw [List.nodup_cons] at hn
    refine HdOk.rels r (I := I.rel s) (h.rel (hT s (List.mem_cons_self ..)) (h1 s (List.mem_cons_self ..))) hn.2 (fun k hk => hT k (List.mem_cons_of_mem _ hk)) (fun k hk => ?_)
    show 1 ≤ (if k = s then I.hc k - 1 else I.hc k)
    rw [if_neg (fun e : k = s => hn.1 (by rw [← e]; exact hk))]
    exact h1 k (List.mem_cons_of_mem _ hk)
theorem HdOk.holds : ∀ (ss : List Nat) {I : Im}, HdOk I → (∀ s ∈ ss, s ∈ I.T.map (·.s)) → HdOk (I.holds ss)
  | [], I, h, _ => h
  | s :: r, I, h, hT => HdOk.holds r (I := I.hold s) (h.hold (hT s (List.mem_cons_self ..))) (fun k hk => hT k (List.mem_cons_of_mem _ hk))
/-- What a merge made: nothing, or a table. -/
def Made (I : Im) (K : List En) (M : List Sh) (I2 : Im) : Prop := (K = [] ∧ M = [] ∧ I2 = { I with mg := false }) ∨ ∃ m : Sh, M = [m] ∧ m.s ∉ I.T.map (·.s) ∧ m.L = K ∧ I2 = ({ I with mg := false } : Im).add m
section
variable {I I2 : Im} {VS : List (List Sh)} {e t k : Nat} {J : Jb} {P : List (List Sh)} {pre suf M : List Sh} {T : List (List Sh)}
theorem Made.ls (h : Made I (J.K ++ keepL J.d J.R) M I2) : I2.LS = I.LS ∧ I2.A = I.A ∧ I2.g = I.g ∧ I2.m = I.m ∧ I2.f = I.f ∧ I2.p = I.p ∧ I2.q = I.q ∧ I2.mg = false := by
  rcases h with ⟨_, _, rfl⟩ | ⟨m, _, _, _, rfl⟩ <;> exact ⟨rfl, rfl, rfl, rfl, rfl, rfl, rfl, rfl⟩
theorem Runs.new_flat (h : Runs I J P pre suf T) (hw : Wf I VS e t) (hm : Made I (J.K ++ keepL J.d J.R) M I2) (hk : Trim (repL I.LS J.Q M J.lv) k) : (I2.repl J.Q M J.lv k).LS.flatten = P.flatten ++ (pre ++ (M ++ T.tail.flatten)) := by
  show ((repL I2.LS J.Q M J.lv).take k).flatten = _
  rw [hm.ls.1, trim_flat hk, h.ls, h.lv, repL_mid, filter_pre (Q := J.Q) (fun q hq => by rw [h.q]; exact List.mem_append_left _ hq) (h.nodup hw.nd).2]
  simp only [List.flatten_append, List.flatten_cons, List.append_assoc]
theorem Runs.wf (h : Runs I J P pre suf T) (hw : Wf I VS e t) (hm : Made I (J.K ++ keepL J.d J.R) M I2) (hk : Trim (repL I.LS J.Q M J.lv) k) : Wf (I2.repl J.Q M J.lv k) VS e (t + 1) := by
  have hfl := h.new_flat hw hm hk
  have hold := h.flat
  have hQs : ∀ s ∈ J.Q.map (·.s), s ∈ I.T.map (·.s) := fun s hs => by
    obtain ⟨q, hq, rfl⟩ := List.mem_map.1 hs
    exact List.mem_map_of_mem (hw.sub q (h.sub q hq))
  have hQ1 : ∀ s ∈ J.Q.map (·.s), 1 ≤ I.hc s := fun s hs => by
    obtain ⟨q, hq, rfl⟩ := List.mem_map.1 hs
    rw [hw.hc q (hw.sub q (h.sub q hq))]
    have : 1 ≤ (I.LS.flatten.map (·.s)).count q.s := List.count_pos_iff.2 (List.mem_map_of_mem (h.sub q hq))
    omega
  have hQn := (h.nodup hw.nd).1
  have hT2 : (I2.repl J.Q M J.lv k).T = I2.T := (rels_same _ _).1
  have hA2 : (I2.repl J.Q M J.lv k).A = I.A := (rels_same _ _).2.2.1.trans hm.ls.2.1
  have hin : ∀ q ∈ P.flatten ++ (pre ++ T.tail.flatten), q ∈ I.LS.flatten := fun q hq => by
    rw [hold]
    simp only [List.mem_append] at hq ⊢
    rcases hq with hq | hq | hq
    · exact .inl hq
    · exact .inr (.inl hq)
    · exact .inr (.inr (.inr hq))
  have hsl : (P.flatten ++ (pre ++ T.tail.flatten)).Sublist I.LS.flatten := by
    rw [hold]
    exact List.Sublist.append_left (List.Sublist.append_left (List.sublist_append_right _ _) _) _
  have hnd0 := (hsl.map (·.s)).nodup hw.nd
  have hla : ∀ l, (I2.repl J.Q M J.lv k).LS.getLast? = some l → l ≠ [] := fun l hl => by
    have hl2 : ((repL I.LS J.Q M J.lv).take k).getLast? = some l := by
      rw [← hm.ls.1]
      exact hl
    rw [List.getLast?_eq_getElem?, List.length_take, Nat.min_eq_left hk.le] at hl2
    cases k with
    | zero => simp at hl2
    | succ n =>
      rw [Nat.add_sub_cancel, List.getElem?_take] at hl2
      split at hl2
      · exact hk.lo n l rfl hl2
      · cases hl2
  have hln : (I2.repl J.Q M J.lv k).LS.length ≤ t + 1 := by
    show ((repL I2.LS J.Q M J.lv).take k).length ≤ t + 1
    rw [hm.ls.1, List.length_take, h.ls, h.lv, repL_mid]
    have h1 := hw.ln
    rw [h.ls] at h1
    simp only [List.length_append, List.length_cons, List.length_tail] at h1 ⊢
    omega
  have hKl : (J.K ++ keepL J.d J.R).length ≤ sumL (J.Q.map (·.L)) := by
    rw [h.k]
    exact Nat.le_trans (keep_len _ _) (allN_len _)
  have hen := hw.en
  unfold Im.lists listsS at hen
  rw [hold, sumL_cons, List.map_append, List.map_append, List.map_append, sumL_append, sumL_append, sumL_append] at hen
  have hen2 : sumL (J.Q.map Sh.L) = sumL (J.Q.map (·.L)) := rfl
  have hsm := hw.sm
  have hks := (h.small hw).1
  have htn := hw.tn
  rw [hold] at htn
  simp only [List.length_append] at htn
  rcases hm with ⟨hK, rfl, rfl⟩ | ⟨m, rfl, hms, hmL, rfl⟩
  · refine ⟨?_, fun q hq => ?_, ?_, fun q hq => ?_, fun V hV q hq => ?_, hw.vn, ?_, fun L hL => ?_, ?_, hln, ?_, hla⟩
    · have h1 := HdOk.rels (J.Q.map (·.s)) (I := { I with mg := false }) ⟨hw.ho.hd, hw.ho.nd⟩ hQn hQs hQ1
      exact ⟨h1.hd, h1.nd⟩
    · rw [hfl] at hq
      rw [hT2]
      exact hw.sub q (hin q (by simpa using hq))
    · rw [hfl]
      simpa using hnd0
    · rw [hT2] at hq
      have h1 := hw.hc q hq
      rw [hfl]
      show (({ I with mg := false } : Im).rels (J.Q.map (·.s))).hc q.s = _
      rw [rels_cnt]
      show I.hc q.s - _ = _
      rw [hold] at h1
      simp only [List.map_append, List.count_append, List.nil_append] at h1 ⊢
      omega
    · rw [hT2]
      exact hw.vs V hV q hq
    · unfold Im.lists listsS
      rw [hfl, hA2, sumL_cons]
      simp only [List.map_append, sumL_append, List.nil_append]
      omega
    · unfold Im.lists listsS at hL hsm
      rw [hfl, hA2] at hL
      rcases List.mem_cons.1 hL with rfl | hL
      · exact hsm _ (List.mem_cons_self ..)
      · obtain ⟨q, hq, rfl⟩ := List.mem_map.1 hL
        exact hsm _ (List.mem_cons_of_mem _ (List.mem_map_of_mem (hin q (by simpa using hq))))
    · rw [hfl]
      simp only [List.length_append, List.length_nil]
      omega
    · rw [hT2]
      have := hw.tt
      show I.T.length ≤ t + 1
      omega
  · have hT3 : (({ I with mg := false } : Im).add m).T = I.T ++ [m] := rfl
    have hmn : m.s ∉ (P.flatten ++ (pre ++ T.tail.flatten)).map (·.s) := fun hx => by
      obtain ⟨q, hq, he⟩ := List.mem_map.1 hx
      exact hms (he ▸ List.mem_map_of_mem (hw.sub q (hin q hq)))
    have hmQ : m.s ∉ J.Q.map (·.s) := fun hx => hms (hQs _ hx)
    refine ⟨?_, fun q hq => ?_, ?_, fun q hq => ?_, fun V hV q hq => ?_, hw.vn, ?_, fun L hL => ?_, ?_, hln, ?_, hla⟩
    · have h0 := (show HdOk { I with mg := false } from ⟨hw.ho.hd, hw.ho.nd⟩).add (q := m) hms
      have h1 := HdOk.rels (J.Q.map (·.s)) (I := ({ I with mg := false } : Im).add m) h0 hQn (fun s hs => by
        rw [hT3, List.map_append]
        exact List.mem_append_left _ (hQs s hs)) (fun s hs => by
        show 1 ≤ (if s = m.s then 1 else I.hc s)
        split
        · exact Nat.le_refl _
        · exact hQ1 s hs)
      exact ⟨h1.hd, h1.nd⟩
    · rw [hfl] at hq
      rw [hT2, hT3]
      by_cases hqm : q = m
      · simp [hqm]
      · refine List.mem_append_left _ (hw.sub q (hin q ?_))
        simp only [List.mem_append, List.mem_singleton] at hq ⊢
        rcases hq with hq | hq | hq | hq
        · exact .inl hq
        · exact .inr (.inl hq)
        · exact absurd hq hqm
        · exact .inr (.inr hq)
    · rw [hfl]
      have hp : (P.flatten ++ (pre ++ ([m] ++ T.tail.flatten))).Perm (m :: (P.flatten ++ (pre ++ T.tail.flatten))) := by
        rw [show P.flatten ++ (pre ++ ([m] ++ T.tail.flatten)) = (P.flatten ++ pre) ++ m :: T.tail.flatten by simp, show P.flatten ++ (pre ++ T.tail.flatten) = (P.flatten ++ pre) ++ T.tail.flatten by simp]
        exact List.perm_middle
      rw [(hp.map (·.s)).nodup_iff, List.map_cons, List.nodup_cons]
      exact ⟨hmn, hnd0⟩
    · rw [hT2, hT3] at hq
      rw [hfl]
      show ((({ I with mg := false } : Im).add m).rels (J.Q.map (·.s))).hc q.s = _
      rw [rels_cnt]
      show (if q.s = m.s then 1 else I.hc q.s) - _ = _
      simp only [List.map_append, List.count_append, List.mem_append, not_or] at hmn
      simp only [List.map_append, List.count_append, List.map_cons, List.map_nil]
      rcases List.mem_append.1 hq with hq | hq
      · have hne : q.s ≠ m.s := fun e => hms (e ▸ List.mem_map_of_mem hq)
        have h1 := hw.hc q hq
        rw [hold] at h1
        simp only [List.map_append, List.count_append] at h1
        have e0 : [m.s].count q.s = 0 := List.count_eq_zero.2 (fun hx => hne (List.mem_singleton.1 hx))
        rw [if_neg hne, e0]
        omega
      · rw [List.mem_singleton] at hq
        subst hq
        rw [if_pos rfl, occ_new hw.vs hms, List.count_eq_zero.2 hmQ, List.count_eq_zero.2 hmn.1, List.count_eq_zero.2 hmn.2.1, List.count_eq_zero.2 hmn.2.2]
        simp
    · rw [hT2, hT3]
      exact List.mem_append_left _ (hw.vs V hV q hq)
    · unfold Im.lists listsS
      rw [hfl, hA2, sumL_cons]
      simp only [List.map_append, sumL_append, List.map_cons, List.map_nil, sumL_cons, sumL_nil, hmL]
      omega
    · unfold Im.lists listsS at hL hsm
      rw [hfl, hA2] at hL
      rcases List.mem_cons.1 hL with rfl | hL
      · exact hsm _ (List.mem_cons_self ..)
      · obtain ⟨q, hq, rfl⟩ := List.mem_map.1 hL
        by_cases hqm : q = m
        · rw [hqm, hmL]
          exact hks
        · refine hsm _ (List.mem_cons_of_mem _ (List.mem_map_of_mem (hin q ?_)))
          simp only [List.mem_append, List.mem_singleton] at hq ⊢
          rcases hq with hq | hq | hq | hq
          · exact .inl hq
          · exact .inr (.inl hq)
          · exact absurd hq hqm
          · exact .inr (.inr hq)
    · rw [hfl]
      simp only [List.length_append, List.length_singleton]
      omega
    · rw [hT2, hT3, List.length_append]
      have := hw.tt
      simp only [List.length_singleton]
      omega
theorem Runs.tells (h : Runs I J P pre suf T) (hw : Wf I VS e t) (hm : Made I (J.K ++ keepL J.d J.R) M I2) (hk : Trim (repL I.LS J.Q M J.lv) k) (hf : Fine (J.Q.map (·.L))) : Same I.lists (I2.repl J.Q M J.lv k).lists := by
  have hfl := h.new_flat hw hm hk
  have hA2 : (I2.repl J.Q M J.lv k).A = I.A := (rels_same _ _).2.2.1.trans hm.ls.2.1
  unfold Im.lists listsS
  rw [hfl, hA2, h.flat]
  have e1 : ∀ X : List Sh, I.A :: (P.flatten ++ (pre ++ (X ++ T.tail.flatten))).map Sh.L = (I.A :: (P.flatten ++ pre).map Sh.L) ++ (X.map Sh.L ++ T.tail.flatten.map Sh.L) := fun X => by simp
  rw [e1, e1]
  have hd : J.d = true → T.tail.flatten.map Sh.L = [] := fun hd => by
    rw [h.d, decide_eq_true_eq] at hd
    rw [hd]
    rfl
  have h1 := merge_same (I.A :: (P.flatten ++ pre).map Sh.L) (J.Q.map (·.L)) (T.tail.flatten.map Sh.L) J.d hd hf
  refine Same.trans h1 ?_
  rw [← h.k]
  rcases hm with ⟨hK, rfl, rfl⟩ | ⟨m, rfl, hms, hmL, rfl⟩
  · rw [hK]
    exact same_nil _ _
  · rw [List.map_cons, List.map_nil, hmL]
    exact Same.refl _
end
theorem IxAt.fresh {A : Nat → Prop} {w : World} {x : Nat} {I : Im} (h : IxAt A w x I) {s : Nat} (hs : w.heap.size ≤ s) : s ∉ I.T.map (·.s) := fun hm => by
  obtain ⟨q, hq, rfl⟩ := List.mem_map.1 hm
  obtain ⟨B, F, a, v, vs, _, _, _, h1, _⟩ := h.ex
  have := (h1.sh q hq).ty.lt
  omega
theorem IxAt.fine {A : Nat → Prop} {w : World} {x : Nat} {I : Im} (h : IxAt A w x I) (hs : ∀ q ∈ I.LS.flatten, q ∈ I.T) : Fine I.lists := by
  obtain ⟨B, F, a, v, vs, _, _, _, h1, h2⟩ := h.ex
  intro L hL
  unfold Im.lists listsS at hL
  rcases List.mem_cons.1 hL with rfl | hL
  · exact ⟨h2.srt, h.nrm⟩
  · obtain ⟨q, hq, rfl⟩ := List.mem_map.1 hL
    have := h1.ok q (hs q hq)
    exact ⟨this.srt, this.nrm⟩
theorem EndR.made {A AJ : Nat → Prop} {w w' : World} {x j k : Nat} {I I2 : Im} {J : Jb} {M : List Sh} {A' : Nat → Prop} (h : EndR A AJ w w' x j I J M k I2) (hI : IxAt A' w x I) (hp : 1 ≤ I.p) : Made I J.K M I2 := by
  rcases h.md with ⟨h1, h2, h3⟩ | ⟨h1, s, h2, h3, h4⟩
  · exact .inl ⟨h1, h2, h3⟩
  · exact .inr ⟨_, h3, hI.fresh h2, parts_flat hp, h4⟩
end Go.Proofs.YtljlfdhjolcnaaaGreat.Ix
