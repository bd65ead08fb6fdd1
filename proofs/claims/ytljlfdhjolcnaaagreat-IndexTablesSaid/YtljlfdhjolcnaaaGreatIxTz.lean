/-
  index, plain: what an index has behind a put, a flush and a merge; how many hold what.
-/
import Derived.Test.YtljlfdhjolcnaaaGreatIxVz
namespace Go.Proofs.YtljlfdhjolcnaaaGreat.Ix
open Go.RowKit Go.Maps Me Mg
set_option maxRecDepth 100000
set_option linter.unusedVariables false
set_option linter.unusedSimpArgs false

theorem live_idem (o : Option En) : liveO (liveO o) = liveO o := by
  unfold liveO
  rw [Option.filter_filter]
  simp
theorem live_or (a b : Option En) : liveO (a.or (liveO b)) = liveO (a.or b) := by
  cases a with
  | none => exact live_idem b
  | some e => rfl
/-- Orders merged into one, what is gone left out if nothing lies behind. -/
theorem merge_same (H Qs T : List (List En)) (d : Bool) (hd : d = true → T = []) (hf : Fine Qs) : Same (H ++ (Qs ++ T)) (H ++ ([keepL d (allN Qs)] ++ T)) := by
  intro k
  rw [look_append, look_append, look_append, look_append, look_one]
  cases d with
  | false =>
    rw [show keepL false (allN Qs) = allN Qs from rfl, hf.get]
  | true =>
    rw [hd rfl, show keepL true (allN Qs) = liveL (allN Qs) from rfl, get_live k (allN_sorted Qs), hf.get]
    simp only [look, Option.or_none]
    rw [live_or]
theorem same_nil (H T : List (List En)) : Same (H ++ ([[]] ++ T)) (H ++ T) := by
  intro k
  rw [look_append, look_append, look_append, look_one, getL_nil, Option.none_or]
theorem keep_fine {d : Bool} {L : List En} (h : Sorted L) (hn : Nrm L) : Sorted (keepL d L) ∧ Nrm (keepL d L) := by
  unfold keepL
  cases d with
  | false => exact ⟨h, hn⟩
  | true => exact ⟨List.Pairwise.sublist List.filter_sublist h, fun e he => hn e (List.mem_filter.1 he).1⟩
/-- An entry that may be. -/
def Small (e : En) : Prop := e.k.length + e.v.length ≤ 512
def Smalls (L : List En) : Prop := ∀ e ∈ L, Small e
theorem norm_small {e : En} (h : Small e) : Small (norm e) := by
  unfold norm Small at *
  split
  · simp only [List.length_nil]
    omega
  · exact h
theorem put_small {L : List En} (h : Smalls L) {e : En} (he : Small e) : Smalls (putL L e) := by
  intro x hx
  unfold putL at hx
  rcases List.mem_append.1 hx with hx | hx
  · exact h x (List.mem_of_mem_take hx)
  · rcases List.mem_cons.1 hx with rfl | hx
    · exact norm_small he
    · exact h x (List.mem_of_mem_drop hx)
theorem puts_small : ∀ (l : List En) {M : List En}, Smalls M → Smalls l → Smalls (putsF M l)
  | [], M, h, _ => h
  | e :: r, M, h, hl => puts_small r (M := putL M e) (put_small h (hl e (List.mem_cons_self ..))) (fun x hx => hl x (List.mem_cons_of_mem _ hx))
theorem all_small : ∀ {Ls : List (List En)}, (∀ L ∈ Ls, Smalls L) → Smalls (allN Ls)
  | [], _ => fun e he => by cases he
  | l :: r, h => puts_small l (all_small (fun L hL => h L (List.mem_cons_of_mem _ hL))) (h l (List.mem_cons_self ..))
theorem keep_small {d : Bool} {L : List En} (h : Smalls L) : Smalls (keepL d L) := by
  unfold keepL
  cases d with
  | false => exact h
  | true => exact fun e he => h e (List.mem_filter.1 he).1
theorem size_small : ∀ {L : List En}, Smalls L → sizeL L ≤ 512 * L.length
  | [], _ => Nat.le_refl _
  | e :: r, h => by
    have h1 := size_small (L := r) (fun x hx => h x (List.mem_cons_of_mem _ hx))
    have h2 := h e (List.mem_cons_self ..)
    unfold Small at h2
    rw [sizeL, List.length_cons]
    omega
theorem sumL_append (A B : List (List En)) : sumL (A ++ B) = sumL A + sumL B := by simp [sumL]
theorem sumL_cons (A : List En) (B : List (List En)) : sumL (A :: B) = A.length + sumL B := by simp [sumL]
theorem sumL_nil : sumL [] = 0 := rfl

/-- A put of the same in both. -/
theorem put_look {A : List En} {Q : List (List En)} (hA : Sorted A) (e : En) (k : List UInt8) : look (putL A e :: Q) k = if e.k = k then some (norm e) else look (A :: Q) k := by
  rw [look, look, get_put hA]
  split <;> rfl
theorem same_put {A M : List En} {Q P : List (List En)} (hA : Sorted A) (hM : Sorted M) (e : En) (h : Same (A :: Q) (M :: P)) : Same (putL A e :: Q) (putL M e :: P) := by
  intro k
  rw [put_look hA, put_look hM]
  split
  · rfl
  · exact h k
theorem same_flush (L : List En) (Q : List (List En)) : Same (L :: Q) ([] :: L :: Q) := by
  intro k
  rw [look, look, getL_nil, Option.none_or, look]

/-- A list of lists with one place told. -/
theorem set_mid {α : Type} (P : List α) (x y : α) (R : List α) : (P ++ x :: R).set P.length y = P ++ y :: R := by simp
theorem getD_mid {α : Type} (P : List α) (x d : α) (R : List α) : (P ++ x :: R).getD P.length d = x := by simp [List.getD]
theorem growL_mid (P : List (List Sh)) (l : List Sh) (T : List (List Sh)) : growL (P ++ l :: T) P.length = P ++ l :: (T.headD [] :: T.tail) := by
  unfold growL
  cases T with
  | nil => simp
  | cons n R =>
    rw [if_neg (by simp), List.headD_cons, List.tail_cons]
theorem repL_mid (P : List (List Sh)) (l : List Sh) (T : List (List Sh)) (Q M : List Sh) : repL (P ++ l :: T) Q M P.length = P ++ l.filter (fun q => !decide (q.s ∈ Q.map (·.s))) :: M :: T.tail := by
  unfold repL
  rw [growL_mid, getD_mid, set_mid]
  rw [show P ++ l.filter (fun q => !decide (q.s ∈ Q.map (·.s))) :: T.headD [] :: T.tail = (P ++ [l.filter (fun q => !decide (q.s ∈ Q.map (·.s)))]) ++ T.headD [] :: T.tail by simp]
  rw [show P.length + 1 = (P ++ [l.filter (fun q => !decide (q.s ∈ Q.map (·.s)))]).length by simp, set_mid]
  simp
theorem head_tail (T : List (List Sh)) : T.flatten = T.headD [] ++ T.tail.flatten := by
  cases T with
  | nil => rfl
  | cons a r => simp
theorem flat_nil {LS : List (List Sh)} (h : ∀ l ∈ LS, l = []) : LS.flatten = [] := by
  rw [List.flatten_eq_nil_iff]
  exact h
theorem trim_flat {LS : List (List Sh)} {k : Nat} (h : Trim LS k) : (LS.take k).flatten = LS.flatten := by
  have h1 : LS.flatten = (LS.take k).flatten ++ (LS.drop k).flatten := by rw [← List.flatten_append, List.take_append_drop]
  rw [h1, flat_nil (LS := LS.drop k), List.append_nil]
  intro l hl
  obtain ⟨i, hi⟩ := List.getElem?_of_mem hl
  rw [List.getElem?_drop] at hi
  exact h.hi (k + i) l (by omega) hi
/-- What is not left out of those that are none of these. -/
theorem filter_pre {pre suf : List Sh} {Q : List Sh} (h1 : ∀ q ∈ suf, q ∈ Q) (h2 : ((pre ++ Q).map (·.s)).Nodup) : (pre ++ suf).filter (fun q => !decide (q.s ∈ Q.map (·.s))) = pre := by
  rw [List.filter_append]
  have e2 : suf.filter (fun q => !decide (q.s ∈ Q.map (·.s))) = [] := by
    rw [List.filter_eq_nil_iff]
    intro q hq
    simpa using ⟨q, h1 q hq, rfl⟩
  have e1 : pre.filter (fun q => !decide (q.s ∈ Q.map (·.s))) = pre := by
    rw [List.filter_eq_self]
    intro q hq
    rw [List.map_append, List.nodup_append] at h2
    have h3 := h2.2.2 q.s (List.mem_map_of_mem hq)
    simp only [Bool.not_eq_eq_eq_not, Bool.not_true, decide_eq_false_iff_not]
    exact fun h4 => h3 q.s h4 rfl
  rw [e1, e2, List.append_nil]

/-! How many hold what. -/
/-- How many tables somebody holds. -/
def cntH (T : List Sh) (hc : Nat → Nat) : Nat := (T.filter (fun q => decide (1 ≤ hc q.s))).length
theorem cnt_ext {T : List Sh} {f g : Nat → Nat} (h : ∀ q ∈ T, (1 ≤ f q.s) ↔ (1 ≤ g q.s)) : cntH T f = cntH T g := by
  unfold cntH
  congr 1
  apply List.filter_congr
  intro q hq
  simpa using h q hq
theorem cnt_snoc (T : List Sh) (q : Sh) (f : Nat → Nat) : cntH (T ++ [q]) f = cntH T f + if 1 ≤ f q.s then 1 else 0 := by
  unfold cntH
  rw [List.filter_append, List.length_append]
  congr 1
  by_cases h : 1 ≤ f q.s <;> simp [h]
theorem cnt_one : ∀ {T : List Sh} {f g : Nat → Nat} {s : Nat}, (T.map (·.s)).Nodup → s ∈ T.map (·.s) → (∀ k, k ≠ s → f k = g k) → 1 ≤ f s → g s = 0 → cntH T f = cntH T g + 1
  | [], f, g, s, _, hs, _, _, _ => by cases hs
  | q :: r, f, g, s, hn, hs, he, h1, h0 => by
    rw [List.map_cons, List.nodup_cons] at hn
    have hc : ∀ (f : Nat → Nat), cntH (q :: r) f = cntH r f + if 1 ≤ f q.s then 1 else 0 := by
      intro f
      unfold cntH
      rw [List.filter_cons]
      by_cases h : 1 ≤ f q.s <;> simp [h]
    rw [hc, hc]
    by_cases hq : q.s = s
    · have e1 : cntH r f = cntH r g := cnt_ext (fun p hp => by
        rw [he p.s (fun e => hn.1 (by rw [hq, ← e]; exact List.mem_map_of_mem hp))])
      rw [e1, hq, if_pos h1, if_neg (by omega)]
    · rw [List.map_cons] at hs
      rcases List.mem_cons.1 hs with hs | hs
      · exact absurd hs.symm hq
      · rw [cnt_one hn.2 hs he h1 h0, he q.s hq]
        omega
/-- Its count of tables is right. -/
structure HdOk (I : Im) : Prop where
  hd : I.hd = cntH I.T I.hc
  nd : (I.T.map (·.s)).Nodup
theorem HdOk.rel {I : Im} (h : HdOk I) {s : Nat} (hs : s ∈ I.T.map (·.s)) (h1 : 1 ≤ I.hc s) : HdOk (I.rel s) := by
  refine ⟨?_, h.nd⟩
  show (if I.hc s = 1 then I.hd - 1 else I.hd) = cntH I.T (fun k => if k = s then I.hc k - 1 else I.hc k)
  by_cases h0 : I.hc s = 1
  · rw [if_pos h0, h.hd, cnt_one (f := I.hc) (g := fun k => if k = s then I.hc k - 1 else I.hc k) h.nd hs (fun k hk => by simp [hk]) h1 (by simp [h0])]
    omega
  · rw [if_neg h0, h.hd]
    refine cnt_ext (fun q hq => ?_)
    by_cases hk : q.s = s
    · simp only [hk, if_true]
      omega
    · simp [hk]
theorem HdOk.hold {I : Im} (h : HdOk I) {s : Nat} (hs : s ∈ I.T.map (·.s)) : HdOk (I.hold s) := by
  refine ⟨?_, h.nd⟩
  show (if I.hc s = 0 then I.hd + 1 else I.hd) = cntH I.T (fun k => if k = s then I.hc k + 1 else I.hc k)
  by_cases h0 : I.hc s = 0
  · rw [if_pos h0, h.hd, cnt_one (g := I.hc) (f := fun k => if k = s then I.hc k + 1 else I.hc k) h.nd hs (fun k hk => by simp [hk]) (by simp) h0]
  · rw [if_neg h0, h.hd]
    refine cnt_ext (fun q hq => ?_)
    by_cases hk : q.s = s
    · simp only [hk, if_true]
      omega
    · simp [hk]
theorem HdOk.add {I : Im} (h : HdOk I) {q : Sh} (hs : q.s ∉ I.T.map (·.s)) : HdOk (I.add q) := by
  refine ⟨?_, ?_⟩
  · show I.hd + 1 = cntH (I.T ++ [q]) (fun k => if k = q.s then 1 else I.hc k)
    rw [cnt_snoc, h.hd]
    simp only [if_true, Nat.le_refl]
    congr 1
    refine cnt_ext (fun p hp => ?_)
    rw [if_neg (fun e => hs (by rw [← e]; exact List.mem_map_of_mem hp))]
  · show ((I.T ++ [q]).map (·.s)).Nodup
    rw [List.map_append, List.map_singleton, List.nodup_append]
    exact ⟨h.nd, by simp, fun a ha b hb e => hs (by rw [List.mem_singleton] at hb; rw [← hb, ← e]; exact ha)⟩
theorem cnt_le {T : List Sh} {hc : Nat → Nat} {L : List Sh} (hn : (L.map (·.s)).Nodup) (hL : ∀ q ∈ L, q ∈ T) (h1 : ∀ q ∈ L, 1 ≤ hc q.s) : L.length ≤ cntH T hc := by
  have hnd : L.Nodup := List.Pairwise.of_map (fun q : Sh => q.s) (fun a b h e => h (by rw [e])) hn
  unfold cntH
  refine List.Nodup.length_le_of_subset hnd (fun q hq => ?_)
  exact List.mem_filter.2 ⟨hL q hq, by simpa using h1 q hq⟩
end Go.Proofs.YtljlfdhjolcnaaaGreat.Ix
