/-
  index, plain: what holds of an index, its views and its job, whatever is done.
-/
import Derived.Test.YtljlfdhjolcnaaaGreatIxXz
namespace Go.Proofs.YtljlfdhjolcnaaaGreat.Ix
open Go.RowKit Go.Maps Me Mg
set_option maxRecDepth 100000
set_option linter.unusedVariables false
set_option linter.unusedSimpArgs false

/-- How often views hold a table. -/
def occ (VS : List (List Sh)) (s : Nat) : Nat := (VS.map (fun V => (V.map (·.s)).count s)).sum
/-- What holds of an index: entries at most e, tables at most t. -/
structure Wf (I : Im) (VS : List (List Sh)) (e t : Nat) : Prop where
  ho : HdOk I
  sub : ∀ q ∈ I.LS.flatten, q ∈ I.T
  nd : (I.LS.flatten.map (·.s)).Nodup
  hc : ∀ q ∈ I.T, I.hc q.s = (I.LS.flatten.map (·.s)).count q.s + occ VS q.s
  vs : ∀ V ∈ VS, ∀ q ∈ V, q ∈ I.T
  vn : ∀ V ∈ VS, (V.map (·.s)).Nodup
  en : sumL I.lists ≤ e
  sm : ∀ L ∈ I.lists, Smalls L
  tn : I.LS.flatten.length ≤ t
  ln : I.LS.length ≤ t
  tt : I.T.length ≤ t
  la : ∀ l, I.LS.getLast? = some l → l ≠ []
theorem occ_nil (s : Nat) : occ [] s = 0 := rfl
theorem count_new {L : List Sh} {s : Nat} (h : s ∉ L.map (·.s)) : (L.map (·.s)).count s = 0 := List.count_eq_zero.2 h
theorem occ_new {VS : List (List Sh)} {T : List Sh} {s : Nat} (h : ∀ V ∈ VS, ∀ q ∈ V, q ∈ T) (hs : s ∉ T.map (·.s)) : occ VS s = 0 := by
  unfold occ
  rw [List.sum_eq_zero_iff_forall_eq_nat]
  intro x hx
  obtain ⟨V, hV, rfl⟩ := List.mem_map.1 hx
  refine count_new (fun hm => ?_)
  obtain ⟨q, hq, rfl⟩ := List.mem_map.1 hm
  exact hs (List.mem_map_of_mem (h V hV q hq))
theorem count_one {L : List Nat} (h : L.Nodup) (s : Nat) : L.count s ≤ 1 := List.nodup_iff_count.1 h s
theorem occ_le {VS : List (List Sh)} (h : ∀ V ∈ VS, (V.map (·.s)).Nodup) (s : Nat) : occ VS s ≤ VS.length := by
  induction VS with
  | nil => exact Nat.le_refl _
  | cons V r ih =>
    have h1 := ih (fun W hW => h W (List.mem_cons_of_mem _ hW))
    have h2 := count_one (h V (List.mem_cons_self ..)) s
    unfold occ at h1 ⊢
    rw [List.map_cons, List.sum_cons, List.length_cons]
    omega
section
variable {I : Im} {VS : List (List Sh)} {e t : Nat}
theorem Wf.fresh (g : Prop) (m f p q : Nat) : Wf (freshI g m f p q) [] 0 0 := by
  refine ⟨⟨rfl, by simp [freshI]⟩, by simp [freshI], by simp [freshI], by simp [freshI], by simp, by simp, by simp [freshI, Im.lists, listsS, sumL], fun L hL => ?_, by simp [freshI], by simp [freshI], by simp [freshI], by simp [freshI]⟩
  simp [freshI, Im.lists, listsS] at hL
  subst hL
  intro e he
  cases he
theorem Wf.mono (h : Wf I VS e t) {e' t' : Nat} (he : e ≤ e') (ht : t ≤ t') : Wf I VS e' t' :=
  ⟨h.ho, h.sub, h.nd, h.hc, h.vs, h.vn, Nat.le_trans h.en he, h.sm, Nat.le_trans h.tn ht, Nat.le_trans h.ln ht, Nat.le_trans h.tt ht, h.la⟩
theorem Wf.hd (h : Wf I VS e t) : I.hd ≤ t := by
  rw [h.ho.hd]
  exact Nat.le_trans (List.length_filter_le _ _) h.tt
theorem Wf.hcl (h : Wf I VS e t) {q : Sh} (hq : q ∈ I.T) : I.hc q.s ≤ 1 + VS.length := by
  rw [h.hc q hq]
  have h1 := count_one h.nd q.s
  have h2 := occ_le h.vn q.s
  omega
theorem Wf.lead (h : Wf I VS e t) {l : List Sh} (hl : l ∈ I.LS) : l.length ≤ t := by
  refine Nat.le_trans ?_ h.tn
  obtain ⟨A, B, hAB⟩ := List.append_of_mem hl
  rw [hAB, List.flatten_append, List.flatten_cons, List.length_append, List.length_append]
  omega
theorem Wf.aLen (h : Wf I VS e t) : I.A.length ≤ e := by
  have h1 := h.en
  unfold Im.lists listsS at h1
  rw [sumL_cons] at h1
  omega
theorem Wf.aSmall (h : Wf I VS e t) : Smalls I.A := h.sm I.A (by unfold Im.lists listsS; simp)
theorem Wf.qLen (h : Wf I VS e t) {q : Sh} (hq : q ∈ I.LS.flatten) : q.L.length ≤ e := Nat.le_trans (sumL_at (Ls := I.lists) (by unfold Im.lists listsS; exact List.mem_cons_of_mem _ (List.mem_map_of_mem hq))) h.en
theorem Wf.sz (h : Wf I VS e t) (he : e ≤ 900) (ht : t ≤ 900) : Sz2 I := ⟨Nat.le_trans h.tn ht, Nat.le_trans h.ln (by omega), Nat.le_trans h.en (by omega)⟩
/-- An entry put. -/
theorem Wf.put (h : Wf I VS e t) {x : En} (hx : Small x) : Wf (I.put x) VS (e + 1) t := by
  refine ⟨⟨h.ho.hd, h.ho.nd⟩, h.sub, h.nd, h.hc, h.vs, h.vn, ?_, ?_, h.tn, h.ln, h.tt, h.la⟩
  · have h1 := h.en
    have h2 := length_putL_le I.A x
    unfold Im.lists listsS at h1 ⊢
    rw [sumL_cons] at h1 ⊢
    show (putL I.A x).length + sumL (I.LS.flatten.map Sh.L) ≤ e + 1
    omega
  · intro L hL
    have h1 := h.sm
    unfold Im.lists listsS at hL h1
    rcases List.mem_cons.1 hL with rfl | hL
    · exact put_small (h1 _ (List.mem_cons_self ..)) hx
    · exact h1 L (List.mem_cons_of_mem _ hL)
theorem ins_last : ∀ (LS : List (List Sh)) (q : Sh), (∀ l, LS.getLast? = some l → l ≠ []) → ∀ l, (insF LS q).getLast? = some l → l ≠ []
  | [], q, _, l, hl => by
    simp [insF] at hl
    rw [← hl]
    simp
  | [x], q, h, l, hl => by
    simp [insF] at hl
    rw [← hl]
    simp
  | x :: y :: r, q, h, l, hl => by
    rw [insF, List.getLast?_cons_cons] at hl
    exact h l (by rw [List.getLast?_cons_cons]; exact hl)
theorem ins_len (LS : List (List Sh)) (q : Sh) : (insF LS q).length ≤ LS.length + 1 := by
  cases LS <;> simp [insF]
/-- What is ahead made a table. -/
theorem Wf.flush (h : Wf I VS e t) {q : Sh} (hq : q.s ∉ I.T.map (·.s)) (hL : q.L = I.A) : Wf (I.flush q) VS e (t + 1) := by
  have hfl : (I.flush q).LS.flatten = q :: I.LS.flatten := insF_flat I.LS q
  have hT : (I.flush q).T = I.T ++ [q] := rfl
  have hnl : q.s ∉ I.LS.flatten.map (·.s) := fun hm => by
    obtain ⟨p, hp, he⟩ := List.mem_map.1 hm
    exact hq (he ▸ List.mem_map_of_mem (h.sub p hp))
  refine ⟨⟨(h.ho.add hq).hd, (h.ho.add hq).nd⟩, fun p hp => ?_, ?_, fun p hp => ?_, fun V hV p hp => ?_, h.vn, ?_, fun L hL' => ?_, ?_, ?_, ?_, ins_last I.LS q h.la⟩
  · rw [hfl] at hp
    rw [hT]
    rcases List.mem_cons.1 hp with rfl | hp
    · simp
    · exact List.mem_append_left _ (h.sub p hp)
  · rw [hfl, List.map_cons, List.nodup_cons]
    exact ⟨hnl, h.nd⟩
  · rw [hT] at hp
    rw [hfl, List.map_cons, List.count_cons]
    show (if p.s = q.s then 1 else I.hc p.s) = _
    rcases List.mem_append.1 hp with hp | hp
    · have hne : p.s ≠ q.s := fun e => hq (e ▸ List.mem_map_of_mem hp)
      rw [if_neg hne, if_neg (by simpa using fun e => hne e.symm), h.hc p hp]
      omega
    · rw [List.mem_singleton] at hp
      subst hp
      rw [if_pos rfl, count_new hnl, occ_new h.vs hq]
      simp
  · rw [hT]
    exact List.mem_append_left _ (h.vs V hV p hp)
  · have h1 := h.en
    unfold Im.lists listsS at h1 ⊢
    rw [hfl, List.map_cons, sumL_cons, sumL_cons, hL]
    rw [sumL_cons] at h1
    show 0 + _ ≤ e
    omega
  · have h1 := h.sm
    unfold Im.lists listsS at hL' h1
    rw [hfl, List.map_cons, hL] at hL'
    rcases List.mem_cons.1 hL' with rfl | hL'
    · exact fun e he => by cases he
    · exact h1 L hL'
  · rw [hfl, List.length_cons]
    have := h.tn
    omega
  · have h1 := ins_len I.LS q
    have h2 := h.ln
    show (insF I.LS q).length ≤ t + 1
    omega
  · rw [hT, List.length_append]
    have := h.tt
    simp only [List.length_singleton]
    omega
/-- A Compact begins: it tells so. -/
theorem Wf.mark (h : Wf I VS e t) (m : Bool) : Wf { I with mg := m } VS e t := ⟨⟨h.ho.hd, h.ho.nd⟩, h.sub, h.nd, h.hc, h.vs, h.vn, h.en, h.sm, h.tn, h.ln, h.tt, h.la⟩
end
theorem good_of {L : List En} {p q : Nat} (hs : Sorted L) (hn : Nrm L) (hm : Smalls L) (h0 : L ≠ []) (h1 : L.length ≤ 400) (hp : 1 ≤ p) (hq : 1 ≤ q) (hq2 : q ≤ 64) : Tb.Good L p q ∧ (Tb.tabB L p q).length ≤ 1048576 := by
  have h2 := size_small hm
  have h3 : 1 ≤ L.length := Nat.pos_of_ne_zero (fun e => h0 (List.eq_nil_of_length_eq_zero e))
  have h4 : q * L.length ≤ 64 * 400 := Nat.mul_le_mul hq2 h1
  refine ⟨⟨hp, hq, h3, by omega, hs, hn, by omega, by omega⟩, ?_⟩
  have h5 := Tb.length_tabB (L := L) (p := p) (q := q) hp (by omega)
  omega

/-! A job that runs. -/
structure Runs (I : Im) (J : Jb) (P : List (List Sh)) (pre suf : List Sh) (T : List (List Sh)) : Prop where
  ls : I.LS = P ++ (pre ++ suf) :: T
  lv : J.lv = P.length
  q : J.Q = suf ++ T.headD []
  d : J.d = decide (T.tail = [])
  k : J.K ++ keepL J.d J.R = keepL J.d (allN (J.Q.map (·.L)))
  n : J.N = J.Q.length
theorem Runs.flat {I : Im} {J : Jb} {P : List (List Sh)} {pre suf : List Sh} {T : List (List Sh)} (h : Runs I J P pre suf T) : I.LS.flatten = P.flatten ++ (pre ++ (J.Q ++ T.tail.flatten)) := by
  rw [h.ls, List.flatten_append, List.flatten_cons, head_tail T, h.q]
  simp only [List.append_assoc]
theorem Runs.start {I : Im} {x lv : Nat} (h : lv < I.LS.length) : Runs { I with mg := true } (I.job x lv) (I.LS.take lv) [] (I.LS[lv]'h) (I.LS.drop (lv + 1)) := by
  have hd : I.LS.drop lv = I.LS[lv]'h :: I.LS.drop (lv + 1) := List.drop_eq_getElem_cons h
  have hq : ((I.LS.drop lv).take 2).flatten = (I.LS[lv]'h) ++ (I.LS.drop (lv + 1)).headD [] := by
    rw [hd]
    cases I.LS.drop (lv + 1) with
    | nil => simp
    | cons a r => simp
  refine ⟨?_, ?_, hq, ?_, ?_, rfl⟩
  · show I.LS = _
    rw [List.nil_append, ← hd, List.take_append_drop]
  · show lv = _
    rw [List.length_take]
    omega
  · show decide (I.LS.length ≤ lv + 2) = _
    congr 1
    rw [← List.length_eq_zero_iff, List.length_tail, List.length_drop]
    simp only [eq_iff_iff]
    omega
  · show [] ++ keepL _ (allN _) = _
    rfl
theorem Runs.flush {I : Im} {J : Jb} {P : List (List Sh)} {pre suf : List Sh} {T : List (List Sh)} (h : Runs I J P pre suf T) (q : Sh) : ∃ P' pre', Runs (I.flush q) J P' pre' suf T := by
  cases P with
  | nil =>
    refine ⟨[], q :: pre, ?_, h.lv, h.q, h.d, h.k, h.n⟩
    show insF I.LS q = _
    rw [h.ls]
    rfl
  | cons a r =>
    refine ⟨(q :: a) :: r, pre, ?_, h.lv, h.q, h.d, h.k, h.n⟩
    show insF I.LS q = _
    rw [h.ls]
    rfl
/-- What does not touch the levels. -/
theorem Runs.same {I I' : Im} {J : Jb} {P : List (List Sh)} {pre suf : List Sh} {T : List (List Sh)} (h : Runs I J P pre suf T) (hl : I'.LS = I.LS) : Runs I' J P pre suf T := ⟨hl.trans h.ls, h.lv, h.q, h.d, h.k, h.n⟩
theorem Runs.more {I : Im} {J J' : Jb} {P : List (List Sh)} {pre suf : List Sh} {T : List (List Sh)} (h : Runs I J P pre suf T) (h1 : J'.lv = J.lv) (h2 : J'.Q = J.Q) (h3 : J'.d = J.d) (h4 : J'.N = J.N) (h5 : J'.K ++ keepL J'.d J'.R = J.K ++ keepL J.d J.R) : Runs I J' P pre suf T :=
  ⟨h.ls, h1.trans h.lv, h2.trans h.q, h3.trans h.d, by rw [h5, h.k, h2, h3], by rw [h4, h2, h.n]⟩
section
variable {I : Im} {VS : List (List Sh)} {e t : Nat} {J : Jb} {P : List (List Sh)} {pre suf : List Sh} {T : List (List Sh)}
theorem Runs.sub (h : Runs I J P pre suf T) : ∀ q ∈ J.Q, q ∈ I.LS.flatten := fun q hq => by
  rw [h.flat]
  simp [hq]
theorem Runs.nodup (h : Runs I J P pre suf T) (hn : (I.LS.flatten.map (·.s)).Nodup) : (J.Q.map (·.s)).Nodup ∧ ((pre ++ J.Q).map (·.s)).Nodup := by
  rw [h.flat] at hn
  have h1 : (pre ++ J.Q).Sublist (P.flatten ++ (pre ++ (J.Q ++ T.tail.flatten))) := by
    refine List.Sublist.trans ?_ (List.sublist_append_right _ _)
    exact List.Sublist.append_left (List.sublist_append_left _ _) _
  have h2 := (h1.map (·.s)).nodup hn
  exact ⟨((List.sublist_append_right pre J.Q).map (·.s)).nodup h2, h2⟩
theorem Runs.small (h : Runs I J P pre suf T) (hw : Wf I VS e t) : Smalls (J.K ++ keepL J.d J.R) ∧ (J.K ++ keepL J.d J.R).length ≤ e := by
  rw [h.k]
  have hsub : ∀ L ∈ J.Q.map (·.L), L ∈ I.lists := fun L hL => by
    obtain ⟨q, hq, rfl⟩ := List.mem_map.1 hL
    unfold Im.lists listsS
    exact List.mem_cons_of_mem _ (List.mem_map_of_mem (h.sub q hq))
  refine ⟨keep_small (all_small (fun L hL => hw.sm L (hsub L hL))), ?_⟩
  refine Nat.le_trans (keep_len _ _) (Nat.le_trans (allN_len _) (Nat.le_trans ?_ hw.en))
  unfold Im.lists listsS
  rw [h.flat, sumL_cons, List.map_append, List.map_append, List.map_append, sumL_append, sumL_append, sumL_append]
  show sumL (J.Q.map Sh.L) ≤ _
  omega
/-- It can be ended. -/
theorem Runs.ok (h : Runs I J P pre suf T) (hw : Wf I VS e t) (he : e ≤ 400) (ht : t ≤ 900) (hv : VS.length ≤ 800) (hc : Cfg I) (hf : Fine (J.Q.map (·.L))) : EndOk I { J with K := J.K ++ keepL J.d J.R } := by
  have hn := (h.nodup hw.nd).1
  have h1 : ∀ q ∈ J.Q, 1 ≤ I.hc q.s := fun q hq => by
    rw [hw.hc q (hw.sub q (h.sub q hq))]
    have : 1 ≤ (I.LS.flatten.map (·.s)).count q.s := List.count_pos_iff.2 (List.mem_map_of_mem (h.sub q hq))
    omega
  have hql : J.Q.length ≤ t := by
    refine Nat.le_trans ?_ hw.tn
    rw [h.flat]
    simp only [List.length_append]
    omega
  refine ⟨?_, Nat.le_trans hw.ln ht, fun q hq => hw.sub q (h.sub q hq), Nat.le_trans hql ht, fun l hl => Nat.le_trans (hw.lead hl) ht, hn, fun q hq => ⟨h1 q hq, ?_⟩, by have := hw.hd; omega, ?_, fun hk => ?_⟩
  · show J.lv < I.LS.length
    rw [h.lv, h.ls, List.length_append, List.length_cons]
    omega
  · have := hw.hcl (hw.sub q (h.sub q hq))
    omega
  · rw [hw.ho.hd]
    exact cnt_le hn (fun q hq => hw.sub q (h.sub q hq)) h1
  · obtain ⟨g1, g2⟩ := h.small hw
    have g3 : Sorted (J.K ++ keepL J.d J.R) ∧ Nrm (J.K ++ keepL J.d J.R) := by
      rw [h.k]
      exact keep_fine (allN_sorted _) (all_nrm (fun L hL => (hf L hL).1))
    obtain ⟨k1, k2⟩ := good_of g3.1 g3.2 g1 hk (by omega) hc.p1 hc.q1 hc.q2
    exact ⟨k1, k2⟩
end
end Go.Proofs.YtljlfdhjolcnaaaGreat.Ix
