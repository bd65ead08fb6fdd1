/-
  index: its calls as the laws want them: what holds of an index behind each.
-/
import Derived.Test.YtljlfdhjolcnaaaGreatIxWgz
import Derived.Test.YtljlfdhjolcnaaaGreatIxWz
import Derived.Test.YtljlfdhjolcnaaaGreatGaJ
namespace Go.Proofs.YtljlfdhjolcnaaaGreat.Ix
open Go.RowKit Go.Maps Me Mg
set_option maxRecDepth 100000
set_option linter.unusedVariables false
set_option linter.unusedSimpArgs false

/-- An index goes on as another one of the same config, with its tables. -/
structure Nx (I I' : Im) : Prop where
  g : I'.g = I.g
  m : I'.m = I.m
  f : I'.f = I.f
  p : I'.p = I.p
  q : I'.q = I.q
  T : ∀ q ∈ I.T, q ∈ I'.T
theorem Nx.refl (I : Im) : Nx I I := ⟨rfl, rfl, rfl, rfl, rfl, fun _ h => h⟩
theorem Nx.trans {I J K : Im} (h : Nx I J) (h' : Nx J K) : Nx I K := ⟨h'.g.trans h.g, h'.m.trans h.m, h'.f.trans h.f, h'.p.trans h.p, h'.q.trans h.q, fun q hq => h'.T q (h.T q hq)⟩
/-- What was done to an index. -/
structure Did (A : Nat → Prop) (w w' : World) (x : Nat) (I I' : Im) (VS : List (List Sh)) (e t : Nat) : Prop where
  st : Stay A w w'
  ix : IxAt (fun k => A k ∨ w.heap.size ≤ k) w' x I'
  wf : Wf I' VS e t
  nx : Nx I I'
/-- A call that laid an entry. -/
structure PutI (I I' : Im) (e : En) : Prop where
  mg : I'.mg = I.mg
  ru : ∀ J P pre suf T, Runs I J P pre suf T → ∃ P' pre', Runs I' J P' pre' suf T
  sm : ∀ M, Sorted M → Same I.lists [M] → Same I'.lists [putL M e]
  tl : (I'.LS.flatten.length = I.LS.flatten.length ∧ I'.A.length ≤ I.A.length + 1) ∨ (I'.LS.flatten.length = I.LS.flatten.length + 1 ∧ I.m ≤ I.A.length ∧ I'.A.length ≤ 1)
theorem lists_cons (I : Im) : I.lists = I.A :: I.LS.flatten.map Sh.L := rfl
theorem put_putI {I : Im} {e : En} (hs : Sorted I.A) : PutI I (I.put e) e :=
  ⟨rfl, fun J P pre suf T h => ⟨P, pre, h.same rfl⟩, fun M hM h => same_put (A := I.A) (M := M) (Q := I.LS.flatten.map Sh.L) (P := []) hs hM e h, .inl ⟨rfl, length_putL_le I.A e⟩⟩
theorem flush_same (I : Im) (q : Sh) (hL : q.L = I.A) : Same I.lists (I.flush q).lists := by
  rw [lists_cons, lists_cons]
  show Same _ ([] :: (insF I.LS q).flatten.map Sh.L)
  rw [insF_flat, List.map_cons, hL]
  exact same_flush _ _
theorem flush_putI {I : Im} {e : En} (q : Sh) (hL : q.L = I.A) (hm : I.m ≤ I.A.length) : PutI I ((I.flush q).put e) e :=
  ⟨rfl, fun J P pre suf T h => by
    obtain ⟨P', pre', h'⟩ := h.flush q
    exact ⟨P', pre', h'.same rfl⟩, fun M hM h => same_put (A := (I.flush q).A) (M := M) (Q := (I.flush q).LS.flatten.map Sh.L) (P := []) sorted_nil hM e ((flush_same I q hL).symm.trans h), .inr ⟨by
    show (insF I.LS q).flatten.length = _
    rw [insF_flat, List.length_cons], hm, length_putL_le [] e⟩⟩
section
variable {A : Nat → Prop} {w : World} {x : Nat} {I : Im} {VS : List (List Sh)} {e t : Nat}
theorem Wf.may (hw : Wf I VS e t) (h : IxAt A w x I) (he : e ≤ 300) (ht : t ≤ 800) (h0 : I.A ≠ []) : MayF I := by
  have hs : Sorted I.A := by
    obtain ⟨_, _, _, _, _, _, _, _, _, h2⟩ := h.ex
    exact h2.srt
  obtain ⟨k1, k2⟩ := good_of hs h.nrm hw.aSmall h0 (by have := hw.aLen; omega) h.cfg.p1 h.cfg.q1 h.cfg.q2
  exact ⟨k1, k2, by have := hw.hd; omega, fun l hl => by have := hw.lead hl; omega⟩
theorem Wf.room (hw : Wf I VS e t) (h : IxAt A w x I) (he : e ≤ 300) (ht : t ≤ 800) (k : List UInt8) : ((getL I.A k).isSome = true ∨ I.A.length < I.m) ∨ MayF I := by
  by_cases h0 : I.A = []
  · refine .inl (.inr ?_)
    rw [h0]
    exact h.cfg.m1
  · exact .inr (hw.may h he ht h0)
theorem laid_law {w' : World} (hw : Wf I VS e t) (h : IxAt A w x I) {y : En} (hy : Small y) (hl : Laid A w w' x I y) : ∃ I', Did A w w' x I I' VS (e + 1) (t + 1) ∧ PutI I I' y := by
  have hs : Sorted I.A := by
    obtain ⟨_, _, _, _, _, _, _, _, _, h2⟩ := h.ex
    exact h2.srt
  rcases hl with ⟨_, h1⟩ | ⟨hno, s, hsz, h1⟩
  · exact ⟨_, ⟨h1.2, h1.1, (hw.put hy).mono (Nat.le_refl _) (Nat.le_succ _), ⟨rfl, rfl, rfl, rfl, rfl, fun _ hq => hq⟩⟩, put_putI hs⟩
  · have hL : (⟨s, partsL I.A I.p, Tb.tabB I.A I.p I.q⟩ : Sh).L = I.A := parts_flat h.cfg.p1
    have hm : I.m ≤ I.A.length := Nat.le_of_not_lt (fun hlt => hno (.inr hlt))
    exact ⟨_, ⟨h1.2, h1.1, ((hw.flush (h.fresh hsz) hL).put hy), ⟨rfl, rfl, rfl, rfl, rfl, fun q hq => List.mem_append_left _ hq⟩⟩, flush_putI _ hL hm⟩
/-- Put, as a law sees it. -/
theorem put_law (k v : List UInt8) (h : IxAt A w x I) (hw : Wf I VS e t) (he : e ≤ 300) (ht : t ≤ 800) (hk : k.length ≤ 140737488351232) (hv : v.length ≤ 140737488351232) :
    Calls Tryz.prog 15 #[.pointer (some ⟨x, 0, none⟩), strV k, strV v] w fun y w' =>
      (512 < k.length + v.length ∧ y = .returned (errI 2) ∧ Stay (fun _ => False) w w') ∨ (¬ 512 < k.length + v.length ∧ y = .returned .nilIface ∧ ∃ I', Did A w w' x I I' VS (e + 1) (t + 1) ∧ PutI I I' ⟨k, v, false⟩) := by
  by_cases hl : 512 < k.length + v.length
  · refine (put_long w x k v hl hk hv).mono ?_
    rintro y w' ⟨rfl, hs⟩
    exact .inl ⟨hl, rfl, hs⟩
  · refine (put_laid w x I k v h hl (by have := hw.aLen; omega) (hw.room h he ht k)).mono ?_
    rintro y w' ⟨rfl, hd⟩
    exact .inr ⟨hl, rfl, laid_law hw h (by unfold Small; show k.length + v.length ≤ 512; omega) hd⟩
theorem drop_law (k : List UInt8) (h : IxAt A w x I) (hw : Wf I VS e t) (he : e ≤ 300) (ht : t ≤ 800) (hk : k.length ≤ 140737488351232) :
    Calls Tryz.prog 10 #[.pointer (some ⟨x, 0, none⟩), strV k] w fun y w' =>
      (512 < k.length ∧ y = .returned (errI 2) ∧ Stay (fun _ => False) w w') ∨ (¬ 512 < k.length ∧ y = .returned .nilIface ∧ ∃ I', Did A w w' x I I' VS (e + 1) (t + 1) ∧ PutI I I' ⟨k, [], true⟩) := by
  by_cases hl : 512 < k.length
  · refine (drop_long w x k hl hk).mono ?_
    rintro y w' ⟨rfl, hs⟩
    exact .inl ⟨hl, rfl, hs⟩
  · refine (drop_laid w x I k h hl (by have := hw.aLen; omega) (hw.room h he ht k)).mono ?_
    rintro y w' ⟨rfl, hd⟩
    exact .inr ⟨hl, rfl, laid_law hw h (by unfold Small; show k.length + ([] : List UInt8).length ≤ 512; simp; omega) hd⟩
theorem put_ok (k v : List UInt8) (h : IxAt A w x I) (hw : Wf I VS e t) (he : e ≤ 300) (ht : t ≤ 800) (hk : k.length ≤ 140737488351232) (hv : v.length ≤ 140737488351232) (hl : ¬ 512 < k.length + v.length) :
    Calls Tryz.prog 15 #[.pointer (some ⟨x, 0, none⟩), strV k, strV v] w fun y w' => y = .returned .nilIface ∧ ∃ I', Did A w w' x I I' VS (e + 1) (t + 1) ∧ PutI I I' ⟨k, v, false⟩ := by
  refine (put_law k v h hw he ht hk hv).mono ?_
  rintro y w' (⟨h1, _⟩ | ⟨_, h2, h3⟩)
  · exact absurd h1 hl
  · exact ⟨h2, h3⟩
/-- A call that laid nothing, and what there is stays. -/
structure KeepI (I I' : Im) : Prop where
  mg : I'.mg = I.mg
  ru : ∀ J P pre suf T, Runs I J P pre suf T → ∃ P' pre', Runs I' J P' pre' suf T
  sm : Same I.lists I'.lists
  tl : I.LS.flatten.length ≤ I'.LS.flatten.length
theorem KeepI.refl (I : Im) : KeepI I I := ⟨rfl, fun J P pre suf T h => ⟨P, pre, h⟩, Same.refl _, Nat.le_refl _⟩
theorem Did.none (h : IxAt A w x I) (hw : Wf I VS e t) {w' : World} (hs : Stay (fun _ => False) w w') {e' t' : Nat} (he : e ≤ e') (ht : t ≤ t') : Did A w w' x I I VS e' t' :=
  ⟨hs.mono (fun _ x => x.elim), (h.stay0 hs).mono (fun k _ hk => .inl hk), hw.mono he ht, Nx.refl _⟩
theorem flush_law (h : IxAt A w x I) (hw : Wf I VS e t) (he : e ≤ 300) (ht : t ≤ 800) :
    Calls Tryz.prog 12 #[.pointer (some ⟨x, 0, none⟩)] w fun y w' => y = .returned .nilIface ∧ ∃ I', Did A w w' x I I' VS e (t + 1) ∧ KeepI I I' := by
  by_cases h0 : I.A = []
  · refine (flush_none w x I h h0).mono ?_
    rintro y w' ⟨rfl, rfl⟩
    exact ⟨rfl, I, Did.none h hw (Stay.refl _ _) (Nat.le_refl _) (Nat.le_succ _), KeepI.refl I⟩
  · obtain ⟨m1, m2, m3, m4⟩ := hw.may h he ht h0
    refine (flush_some w x I h m1 m2 m3 m4).mono ?_
    rintro y w' ⟨s, rfl, hd, hsz, _⟩
    have hL : (⟨s, partsL I.A I.p, Tb.tabB I.A I.p I.q⟩ : Sh).L = I.A := parts_flat h.cfg.p1
    exact ⟨rfl, _, ⟨hd.2, hd.1, hw.flush (h.fresh hsz) hL, ⟨rfl, rfl, rfl, rfl, rfl, fun q hq => List.mem_append_left _ hq⟩⟩, ⟨rfl, fun J P pre suf T hr => hr.flush _, flush_same I _ hL, by
      show _ ≤ (insF I.LS _).flatten.length
      rw [insF_flat, List.length_cons]
      omega⟩⟩
theorem first_ex (n : Nat) (f : Nat → Bool) : ∃ r, FirstI n f r := by
  induction n with
  | zero => exact ⟨none, fun i hi => absurd hi (Nat.not_lt_zero i)⟩
  | succ n ih =>
    obtain ⟨r, hr⟩ := ih
    cases r with
    | some j => exact ⟨some j, Nat.lt_succ_of_lt hr.1, hr.2.1, hr.2.2⟩
    | none =>
      cases hf : f n with
      | true => exact ⟨some n, Nat.lt_succ_self n, hf, hr⟩
      | false => exact ⟨none, fun i hi => by
          rcases Nat.lt_succ_iff_lt_or_eq.1 hi with hi | rfl
          · exact hr i hi
          · exact hf⟩
/-- What Compact answers. -/
theorem compact_law (h : IxAt A w x I) (hw : Wf I VS e t) (he : e ≤ 300) (ht : t ≤ 800) :
    Calls Tryz.prog 13 #[.pointer (some ⟨x, 0, none⟩)] w fun y w' =>
      ((I.mg = true ∨ ∀ l ∈ I.LS, l.length ≤ I.f) ∧ (∃ c : Nat, y = .returned (.tuple #[.pointer none, errI c])) ∧ Stay (fun _ => False) w w') ∨
      (I.mg = false ∧ ∃ (j lv : Nat) (P : List (List Sh)) (suf : List Sh) (T : List (List Sh)), I.f < suf.length ∧ y = .returned (.tuple #[.pointer (some ⟨j, 0, none⟩), .nilIface]) ∧ IxAt A w' x { I with mg := true } ∧ JAt (fun k => w.heap.size ≤ k) w' j (I.job x lv) ∧ Stay A w w' ∧ Wf { I with mg := true } VS e t ∧ Runs { I with mg := true } (I.job x lv) P [] suf T) := by
  by_cases hm : I.mg = true
  · refine (compact_lock w x I h hm).mono ?_
    rintro y w' ⟨rfl, hs⟩
    exact .inl ⟨.inl hm, ⟨40, rfl⟩, hs⟩
  · have hm0 : I.mg = false := by simpa using hm
    by_cases hn : ∀ l ∈ I.LS, l.length ≤ I.f
    · refine (compact_none w x I h hm0 hn (by have := hw.ln; omega)).mono ?_
      rintro y w' ⟨rfl, hs⟩
      exact .inl ⟨.inr hn, ⟨8, rfl⟩, hs⟩
    · obtain ⟨lv, hfi⟩ : ∃ lv, FirstI I.LS.length (fullB I.f I.LS) (some lv) := by
        obtain ⟨r, hr⟩ := first_ex I.LS.length (fullB I.f I.LS)
        cases r with
        | some lv => exact ⟨lv, hr⟩
        | none =>
          refine absurd (fun l hl => ?_) hn
          obtain ⟨i, hi⟩ := List.getElem?_of_mem hl
          have h2 := hr i (List.getElem?_eq_some_iff.1 hi).1
          unfold fullB at h2
          rw [hi] at h2
          simpa using h2
      have hlv : lv < I.LS.length ∧ I.f < (I.LS[lv]?.getD []).length := by
        refine ⟨hfi.1, ?_⟩
        have h2 := hfi.2.1
        unfold fullB at h2
        rw [List.getElem?_eq_getElem hfi.1] at h2 ⊢
        simpa using h2
      refine (compact_some w x I lv h hm0 (by have := hw.ln; omega) (by have := hw.tn; omega) (fun q hq => by have := hw.qLen hq; omega) hfi).mono ?_
      rintro y w' ⟨j, rfl, hi, hj, hs⟩
      refine .inr ⟨hm0, j, lv, _, _, _, ?_, rfl, hi, hj, hs, hw.mark true, Runs.start hlv.1⟩
      have h2 := hlv.2
      rw [List.getElem?_eq_getElem hlv.1] at h2
      exact h2
/-- What Step leaves of a job that runs. -/
theorem step_law {AJ : Nat → Prop} {j n : Nat} {J : Jb} {P : List (List Sh)} {pre suf : List Sh} {T : List (List Sh)} (h : IxAt A w x I) (hw : Wf I VS e t) (he : e ≤ 300) (ht : t ≤ 800) (hv : VS.length ≤ 700) (hj : JAt AJ w j J) (hx : J.x = x) (hd : ∀ k, k < w.heap.size → A k → ¬ AJ k) (hr : Runs I J P pre suf T) (hn : 1 ≤ n) (hnm : n ≤ 1000000) :
    Calls Tryz.prog 14 #[.pointer (some ⟨j, 0, none⟩), .int .i64 (n : Int)] w fun y w' =>
      (n ≤ (keepL J.d J.R).length ∧ y = .returned (.tuple #[.bool false, .nilIface]) ∧ Stay AJ w w' ∧ ∃ J', JAt (fun k => AJ k ∨ w.heap.size ≤ k) w' j J' ∧ J'.x = x ∧ Runs I J' P pre suf T) ∨
      ((keepL J.d J.R).length < n ∧ y = .returned (.tuple #[.bool true, .nilIface]) ∧ JB w' j (.pointer none) (.int .i64 0) (.slice none 0 0) (.pointer none) (.bool false) (.slice none 0 0) ∧ Stay (fun k => A k ∨ AJ k) w w' ∧
        ∃ I' M, IxAt (fun k => A k ∨ w.heap.size ≤ k) w' x I' ∧ Wf I' VS e (t + 1) ∧ Nx I I' ∧ I'.mg = false ∧ Same I.lists I'.lists ∧ I'.LS.flatten = P.flatten ++ (pre ++ (M ++ T.tail.flatten)) ∧ ((M = [] ∧ J.K ++ keepL J.d J.R = []) ∨ ∃ m, M = [m]) ∧ ∃ k, Trim (repL I.LS J.Q M J.lv) k ∧ I'.LS = (repL I.LS J.Q M J.lv).take k) := by
  have hfi := h.fine hw.sub
  have hf : Fine (J.Q.map (·.L)) := fun L hL => by
    obtain ⟨q, hq, rfl⟩ := List.mem_map.1 hL
    exact hfi _ (by rw [lists_cons]; exact List.mem_cons_of_mem _ (List.mem_map_of_mem (hr.sub q hq)))
  have hok := hr.ok hw (by omega) (by omega) (by omega) h.cfg hf
  have hsm := (hr.small hw).2
  rw [List.length_append] at hsm
  have hJQ : J.Q.length ≤ t := by
    refine Nat.le_trans ?_ hw.tn
    rw [hr.flat]
    simp only [List.length_append]
    omega
  refine (step_job w x j n I J h hj hx hd hn hnm (by rw [hr.n]; omega) (by omega) hok).mono ?_
  rintro y w' (⟨h1, h2, h3, R', h4, h5⟩ | ⟨h1, h2, M, k, I2, h3⟩)
  · refine .inl ⟨h1, h2, h3, _, h5, hx, hr.more rfl rfl rfl rfl ?_⟩
    show (J.K ++ (keepL J.d J.R).take n) ++ keepL J.d R' = _
    rw [h4, List.append_assoc, List.take_append_drop]
  · refine .inr ⟨h1, h2, h3.jb, h3.st, I2.repl J.Q M J.lv k, M, h3.ix, ?_⟩
    have hm : Made I (J.K ++ keepL J.d J.R) M I2 := h3.made h h.cfg.p1
    have htr : Trim (repL I.LS J.Q M J.lv) k := h3.tr
    have e1 := rels_same (J.Q.map (·.s)) I2
    obtain ⟨_, _, m3, m4, m5, m6, m7, m8⟩ := hm.ls
    refine ⟨hr.wf hw hm htr, ⟨e1.2.2.2.1.trans m3, e1.2.2.2.2.1.trans m4, e1.2.2.2.2.2.1.trans m5, e1.2.2.2.2.2.2.1.trans m6, e1.2.2.2.2.2.2.2.1.trans m7, fun q hq => ?_⟩, e1.2.2.2.2.2.2.2.2.trans m8, hr.tells hw hm htr hf, hr.new_flat hw hm htr, ?_, k, htr, by
      show (repL I2.LS J.Q M J.lv).take k = _
      rw [hm.ls.1]⟩
    · have e2 : (I2.repl J.Q M J.lv k).T = I2.T := e1.1
      rw [e2]
      rcases hm with ⟨_, _, rfl⟩ | ⟨m, _, _, _, rfl⟩
      · exact hq
      · exact List.mem_append_left _ hq
    · rcases hm with ⟨hK, hM, _⟩ | ⟨m, hM, _⟩
      · exact .inl ⟨hM, hK⟩
      · exact .inr ⟨m, hM⟩
end
/-- Where no view holds one, those of its levels are held. -/
theorem wf_held {I : Im} {e t : Nat} (h : Wf I [] e t) : I.hd = I.LS.flatten.length := by
  have hn := List.Pairwise.of_map (fun q : Sh => q.s) (R := fun a b : Sh => a ≠ b) (fun a b h e => h (by rw [e])) h.nd
  have h1 : ∀ q ∈ I.LS.flatten, 1 ≤ I.hc q.s := fun q hq => by
    rw [h.hc q (h.sub q hq)]
    have : 1 ≤ (I.LS.flatten.map (·.s)).count q.s := List.count_pos_iff.2 (List.mem_map_of_mem hq)
    omega
  refine Nat.le_antisymm ?_ ?_
  · rw [h.ho.hd]
    unfold cntH
    have hT := List.Pairwise.of_map (fun q : Sh => q.s) (R := fun a b : Sh => a ≠ b) (fun a b h e => h (by rw [e])) h.ho.nd
    refine List.Nodup.length_le_of_subset (List.Pairwise.sublist List.filter_sublist hT) (fun q hq => ?_)
    obtain ⟨hq1, hq2⟩ := List.mem_filter.1 hq
    rw [decide_eq_true_eq, h.hc q hq1, occ_nil, Nat.add_zero] at hq2
    obtain ⟨p, hp, hps⟩ := List.mem_map.1 (List.count_pos_iff.1 hq2)
    have := sh_inj h.ho.nd (h.sub p hp) hq1 hps
    rw [← this]
    exact hp
  · rw [h.ho.hd]
    exact cnt_le h.nd h.sub h1
end Go.Proofs.YtljlfdhjolcnaaaGreat.Ix
