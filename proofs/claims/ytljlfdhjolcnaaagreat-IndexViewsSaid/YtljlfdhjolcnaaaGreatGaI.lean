import Derived.Test.YtljlfdhjolcnaaaGreatGaG
import Derived.Test.YtljlfdhjolcnaaaGreatGaT
import Derived.Laws.LoneSync
/-
  index, plain: what orders have of a key; what of it is not gone; orders merged, put into, cut to a range.
-/
namespace Go.Proofs.YtljlfdhjolcnaaaGreat.Ix
open Me Mg
set_option maxRecDepth 100000
set_option linter.unusedVariables false

/-- What orders have of a key: the first that has it. -/
def look : List (List En) → List UInt8 → Option En
  | [], _ => none
  | L :: r, k => (getL L k).or (look r k)
theorem look_append : ∀ (A B : List (List En)) (k : List UInt8), look (A ++ B) k = (look A k).or (look B k)
  | [], B, k => by simp [look]
  | L :: r, B, k => by rw [List.cons_append, look, look, look_append r B k, Option.or_assoc]
/-- What is not gone. -/
def liveO (o : Option En) : Option En := o.filter (fun e => !e.g)
/-- Each as it is laid. -/
def Nrm (L : List En) : Prop := ∀ e ∈ L, norm e = e
theorem norm_norm (e : En) : norm (norm e) = norm e := by
  unfold norm
  by_cases h : e.g = true
  · rw [if_pos h]; rfl
  · rw [if_neg h, if_neg h]
theorem getL_in {L : List En} {k : List UInt8} {e : En} (h : getL L k = some e) : e ∈ L := List.mem_of_find?_eq_some h
theorem getL_nil (k : List UInt8) : getL [] k = none := rfl
theorem getL_cons (e : En) (r : List En) (k : List UInt8) : getL (e :: r) k = if e.k = k then some e else getL r k := by
  unfold getL
  rw [List.find?_cons]
  by_cases h : e.k = k
  · rw [if_pos h, show (e.k == k) = true by simpa using h]
  · rw [if_neg h, show (e.k == k) = false by simpa using h]
theorem getL_none {L : List En} {k : List UInt8} (h : ∀ e ∈ L, e.k ≠ k) : getL L k = none := find_none _ _ (fun x hx => by simpa using h x hx)
theorem get_putsF : ∀ (l M : List En) (k : List UInt8), Sorted M → Sorted l → getL (putsF M l) k = ((getL l k).map norm).or (getL M k)
  | [], M, k, _, _ => by simp [putsF, getL_nil]
  | e :: r, M, k, hM, hl => by
    show getL (putsF (putL M e) r) k = _
    rw [get_putsF r (putL M e) k (sorted_put hM e) (sorted_tail hl), get_put hM, getL_cons]
    by_cases h : e.k = k
    · rw [if_pos h, if_pos h]
      have : getL r k = none := getL_none (fun x hx hk => lt_ne (sorted_head hl x hx) (by rw [hk, h]))
      rw [this]
      simp
    · rw [if_neg h, if_neg h]
theorem get_all : ∀ (Ls : List (List En)) (k : List UInt8), (∀ L ∈ Ls, Sorted L) → (∀ L ∈ Ls, Nrm L) → getL (allN Ls) k = look Ls k
  | [], k, _, _ => rfl
  | L :: r, k, hs, hn => by
    have ih := get_all r k (fun q hq => hs q (by simp [hq])) (fun q hq => hn q (by simp [hq]))
    show getL (putsF (allN r) L) k = _
    rw [get_putsF L _ k (allN_sorted r) (hs L (by simp)), ih, look]
    cases h : getL L k with
    | none => rfl
    | some e => rw [Option.map_some, hn L (by simp) e (getL_in h)]
theorem all_nrm {Ls : List (List En)} (h : ∀ l ∈ Ls, Sorted l) : Nrm (allN Ls) := by
  intro e he
  obtain ⟨n, x, _, h1, _⟩ := (allN_tells Ls 0 h).frm e he
  rw [← h1, norm_norm]
theorem put_nrm {L : List En} (h : Nrm L) (e : En) : Nrm (putL L e) := by
  intro x hx
  unfold putL at hx
  rcases List.mem_append.1 hx with hx | hx
  · exact h x (List.mem_of_mem_take hx)
  · rcases List.mem_cons.1 hx with rfl | hx
    · exact norm_norm e
    · exact h x (List.mem_of_mem_drop hx)

/-- Those that are not gone. -/
def liveL (L : List En) : List En := L.filter (fun e => !e.g)
theorem get_live : ∀ {L : List En} (k : List UInt8), Sorted L → getL (liveL L) k = liveO (getL L k)
  | [], k, _ => rfl
  | e :: r, k, h => by
    have ih := get_live (L := r) k (sorted_tail h)
    unfold liveL at ih ⊢
    by_cases hg : e.g = true
    · rw [List.filter_cons_of_neg (by simp [hg]), ih, getL_cons]
      by_cases hk : e.k = k
      · rw [if_pos hk]
        have : getL r k = none := getL_none (fun x hx hx2 => lt_ne (sorted_head h x hx) (by rw [hk, hx2]))
        rw [this]
        simp [liveO, Option.filter, hg]
      · rw [if_neg hk]
    · have hg' : e.g = false := by simpa using hg
      rw [List.filter_cons_of_pos (by simp [hg']), getL_cons, getL_cons, ih]
      by_cases hk : e.k = k
      · rw [if_pos hk, if_pos hk]
        simp [liveO, Option.filter, hg']
      · rw [if_neg hk, if_neg hk]
theorem range_sort {L : List En} (h : Sorted L) (a b : List UInt8) : Sorted (rangeL L a b) := List.Pairwise.sublist List.filter_sublist h
theorem range_nrm {L : List En} (h : Nrm L) (a b : List UInt8) : Nrm (rangeL L a b) := fun e he => h e (List.mem_filter.1 he).1
/-- Orders cut to a range. -/
def rangesL (Ls : List (List En)) (a b : List UInt8) : List (List En) := Ls.map (fun L => rangeL L a b)
/-- What is asked of a range. -/
def askL (Ls : List (List En)) (a b : List UInt8) : List En := liveL (allN (rangesL Ls a b))
/-- Orders that tell the same of all keys. -/
def Same (A B : List (List En)) : Prop := ∀ k, liveO (look A k) = liveO (look B k)
theorem Same.refl (A : List (List En)) : Same A A := fun _ => rfl
theorem Same.symm {A B : List (List En)} (h : Same A B) : Same B A := fun k => (h k).symm
theorem Same.trans {A B C : List (List En)} (h : Same A B) (h' : Same B C) : Same A C := fun k => (h k).trans (h' k)
/-- All of these are in order, as they are laid. -/
def Fine (Ls : List (List En)) : Prop := ∀ L ∈ Ls, Sorted L ∧ Nrm L
theorem Fine.ranges {Ls : List (List En)} (h : Fine Ls) (a b : List UInt8) : Fine (rangesL Ls a b) := by
  intro L hL
  obtain ⟨M, hM, rfl⟩ := List.mem_map.1 hL
  exact ⟨range_sort (h M hM).1 a b, range_nrm (h M hM).2 a b⟩
theorem Fine.get {Ls : List (List En)} (h : Fine Ls) (k : List UInt8) : getL (allN Ls) k = look Ls k := get_all Ls k (fun L hL => (h L hL).1) (fun L hL => (h L hL).2)
theorem Fine.append {A B : List (List En)} (hA : Fine A) (hB : Fine B) : Fine (A ++ B) := fun L hL => (List.mem_append.1 hL).elim (hA L) (hB L)
/-- What is told of a key. -/
def tellV (o : Option En) : List UInt8 × Bool := match liveO o with
  | some e => (e.v, true)
  | none => ([], false)
end Go.Proofs.YtljlfdhjolcnaaaGreat.Ix

/-
  index: slices of single cells, one's own rows of them; tables by what their calls answer; an index in memory.
-/
namespace Go.Proofs.YtljlfdhjolcnaaaGreat.Ix
open Go.RowKit Go.Maps Me Mg
open Pk (Owns Slc)
set_option maxRecDepth 100000
set_option linter.unusedVariables false

/-- A block of cells of this type. -/
def Ty (w : World) (k : Nat) (t : TypeId) : Prop := ∃ cs fr, w.heap[k]? = some (.cells cs t fr)
section
variable {w w' : World} {k j : Nat} {t t' : TypeId} {X : Nat → Prop}
theorem Ty.uniq (h : Ty w k t) (h' : Ty w k t') : t = t' := by
  obtain ⟨cs, fr, e⟩ := h
  obtain ⟨cs', fr', e'⟩ := h'
  rw [e] at e'
  cases e'
  rfl
theorem Ty.ne (h : Ty w k t) (h' : Ty w j t') (ht : t ≠ t') : k ≠ j := by
  rintro rfl
  exact ht (h.uniq h')
theorem Ty.lt (h : Ty w k t) : k < w.heap.size := by
  obtain ⟨cs, fr, e⟩ := h
  exact (Array.getElem?_eq_some_iff.1 e).1
theorem Ty.stay (h : Ty w k t) (hs : Stay X w w') (hx : ¬ X k) : Ty w' k t := by
  obtain ⟨cs, fr, e⟩ := h
  exact ⟨cs, fr, (hs.block k (Array.getElem?_eq_some_iff.1 e).1 hx).trans e⟩
end

/-- A slice whose cells are these. -/
def CS (w : World) (v : Value) (vs : List Value) : Prop :=
  ∃ a0 c, v = .slice a0 vs.length c ∧ vs.length ≤ c ∧ c ≤ 9223372036854775807 ∧ (a0 = none → c = 0) ∧ (0 < vs.length → ∃ g o, a0 = some ⟨g, o, none⟩ ∧ ∀ i u, vs[i]? = some u → w.cell? ⟨g, o + i, none⟩ = some u)
/-- A row of cells of one's own. -/
def CO (base : Nat) (t : TypeId) (w : World) (v : Value) (vs : List Value) : Prop := w.ownsRow base t 1 v vs.length vs
section
variable {base : Nat} {t : TypeId} {w w' : World} {v : Value} {vs us : List Value} {X : Nat → Prop}
theorem CS.stay (h : CS w v vs) (hs : Stay X w w') (hx : ∀ k, v.ownBlock = some k → ¬ X k) : CS w' v vs := by
  obtain ⟨a0, c, rfl, h1, h2, h3, h4⟩ := h
  refine ⟨a0, c, rfl, h1, h2, h3, fun h0 => ?_⟩
  obtain ⟨g, o, rfl, hc⟩ := h4 h0
  exact ⟨g, o, rfl, fun i u hu => hs.cell (hc i u hu) (hx g rfl)⟩
theorem CS.stay0 (h : CS w v vs) (hs : Stay (fun _ => False) w w') : CS w' v vs := h.stay hs (fun _ _ x => x)
theorem CS.nil (w : World) : CS w (.slice none 0 0) [] := ⟨none, 0, rfl, Nat.le_refl _, by decide, fun _ => rfl, fun h => absurd h (Nat.lt_irrefl 0)⟩
theorem CS.form (h : CS w v vs) : ∃ a c, v = .slice a vs.length c := by
  obtain ⟨a0, c, e, _⟩ := h
  exact ⟨a0, c, e⟩
theorem CS.len (h : CS w v vs) : vs.length ≤ 9223372036854775807 := by
  obtain ⟨a0, c, e, h1, h2, _⟩ := h
  omega
theorem CS.at {a0 : Option Addr} {n c : Nat} (h : CS w (.slice a0 n c) vs) (h0 : 0 < vs.length) : ∃ g o, a0 = some ⟨g, o, none⟩ ∧ g < w.heap.size ∧ ∀ i u, vs[i]? = some u → w.cell? ⟨g, o + i, none⟩ = some u := by
  obtain ⟨a1, c1, e, h1, h2, h3, h4⟩ := h
  cases e
  obtain ⟨g, o, rfl, hc⟩ := h4 h0
  obtain ⟨u, hu⟩ : ∃ u, vs[0]? = some u := ⟨_, List.getElem?_eq_getElem h0⟩
  exact ⟨g, o, rfl, World.block_lt_of_cell? w _ (hc 0 u hu), hc⟩
/-- Cells from some place on, up to another one. -/
theorem CS.part {a0 : Option Addr} {n c i j : Nat} (h : CS w (.slice a0 n c) vs) (hi : i ≤ j) (hj : j ≤ vs.length) : CS w (.slice (if c = i then a0 else a0.map (·.add i)) (j - i) (c - i)) ((vs.drop i).take (j - i)) := by
  obtain ⟨a1, c1, e, h1, h2, h3, h4⟩ := h
  cases e
  have hl : ((vs.drop i).take (j - i)).length = j - i := by rw [List.length_take, List.length_drop]; omega
  refine ⟨_, c - i, by rw [hl], by omega, by omega, fun e => ?_, fun h0 => ?_⟩
  · split at e
    · omega
    · cases a0 with
      | none => have := h3 rfl; omega
      | some ad => cases e
  · obtain ⟨g, o, rfl, hc⟩ := h4 (by omega)
    rw [if_neg (by omega)]
    refine ⟨g, o + i, by rw [Option.map_some, add_at], fun m u hu => ?_⟩
    rw [List.getElem?_take] at hu
    split at hu
    · rw [List.getElem?_drop] at hu
      have := hc _ u hu
      rwa [show o + (i + m) = o + i + m by omega] at this
    · cases hu

theorem CO.stay (h : CO base t w v vs) (hs : Stay X w w') (hx : ∀ k, v.ownBlock = some k → ¬ X k) : CO base t w' v vs := by
  refine ⟨h.1, ?_⟩
  rcases h.2 with h' | ⟨g, cap, cur, rfl, h4, hg, r⟩
  · exact .inl h'
  · exact .inr ⟨g, cap, cur, rfl, h4, (hs.block g (Array.getElem?_eq_some_iff.1 hg).1 (hx g rfl)).trans hg, r⟩
theorem CO.stay0 (h : CO base t w v vs) (hs : Stay (fun _ => False) w w') : CO base t w' v vs := h.stay hs (fun _ _ x => x)
theorem CO.rebase {base' : Nat} (h : CO base t w v vs) (hb : ∀ k, v.ownBlock = some k → base' ≤ k) : CO base' t w v vs := by
  refine ⟨h.1, ?_⟩
  rcases h.2 with h' | ⟨g, cap, cur, rfl, h4, r⟩
  · exact .inl h'
  · exact .inr ⟨g, cap, cur, rfl, hb g rfl, r⟩
theorem CO.zero (h : CO base t w v vs) : CO 0 t w v vs := h.rebase (fun k _ => Nat.zero_le k)
theorem CO.lt (h : CO base t w v vs) : ∀ k, v.ownBlock = some k → base ≤ k ∧ k < w.heap.size := World.ownsRow.lt h
theorem CO.form (h : CO base t w v vs) : ∃ a c, v = .slice a vs.length c := by
  rcases h.2 with ⟨e, hn⟩ | ⟨g, cap, cur, e, _⟩
  · exact ⟨none, 0, by rw [e, hn]⟩
  · exact ⟨_, _, e⟩
theorem CO.one (h : CO base t w v vs) : v.oneCell' = true := by
  obtain ⟨a, c, rfl⟩ := h.form
  rfl
theorem CO.nil (base : Nat) (t : TypeId) (w : World) : CO base t w (.slice none 0 0) [] := World.ownsRow_nil w base _ _
theorem CO.lit (w : World) (vs : List Value) (hb : base ≤ w.heap.size) (hm : vs.length ≤ 1000000) : CO base t (w.alloc (.cells vs.toArray t)) (.slice (some ⟨w.heap.size, 0, none⟩) vs.length vs.length) vs := by
  have := World.ownsRow_lit (base := base) (e := t) (size := 1) w vs.toArray vs.length hb (by unfold maxLen; omega) (by simp)
  simpa [CO] using this
theorem CO.at (h : CO base t w v vs) (h0 : 0 < vs.length) : ∃ g c, v = .slice (some ⟨g, 0, none⟩) vs.length c ∧ vs.length ≤ c ∧ c ≤ 9223372036854775807 ∧ base ≤ g ∧ g < w.heap.size := by
  rcases h.2 with ⟨e, hn⟩ | ⟨g, cap, cur, e, h4, hg, h5, h6, _⟩
  · omega
  · exact ⟨g, cap, e, h5, by unfold maxLen at h6; omega, h4, (Array.getElem?_eq_some_iff.1 hg).1⟩
theorem CO.cell {g n c : Nat} (h : CO base t w (.slice (some ⟨g, 0, none⟩) n c) vs) {j : Nat} {u : Value} (hj : vs[j]? = some u) : w.cell? ⟨g, j, none⟩ = some u := by
  have := World.ownsRow.cells (g := g) h rfl j _ hj
  rwa [add_at, Nat.zero_add] at this
theorem CO.fr {g n c : Nat} (h : CO base t w (.slice (some ⟨g, 0, none⟩) n c) vs) (j : Nat) : w.frozen? ⟨g, j, none⟩ = false := by
  rcases h.2 with ⟨e, _⟩ | ⟨g', cap, cur, e, h4, hg, r⟩
  · cases e
  · cases e
    exact frozen_of_row w g j _ _ hg
theorem CO.ty (h : CO base t w v vs) : ∀ k, v.ownBlock = some k → Ty w k t := by
  intro k hk
  rcases h.2 with ⟨e, _⟩ | ⟨g', cap, cur, e, h4, hg, _⟩
  · rw [e] at hk; cases hk
  · rw [e] at hk
    have hk' : g' = k := Option.some.inj hk
    subst hk'
    exact ⟨_, _, hg⟩
theorem CO.cs (h : CO base t w v vs) : CS w v vs := by
  rcases h.2 with ⟨e, hn⟩ | ⟨g, cap, cur, e, h4, hg, h5, h6, _⟩
  · have : vs = [] := List.eq_nil_of_length_eq_zero hn
    subst this
    rw [e]
    exact CS.nil w
  · refine ⟨_, cap, e, h5, by unfold maxLen at h6; omega, (fun h => by cases h), fun _ => ⟨g, 0, rfl, fun i u hu => ?_⟩⟩
    subst e
    rw [Nat.zero_add]
    exact h.cell hu
theorem CO.set {g n c : Nat} (h : CO base t w (.slice (some ⟨g, 0, none⟩) n c) vs) (j : Nat) (u : Value) : CO base t (w.setCell ⟨g, j, none⟩ u) (.slice (some ⟨g, 0, none⟩) n c) (vs.set j u) := by
  have hn : n = vs.length := by
    obtain ⟨a, c', e⟩ := h.form
    cases e
    rfl
  subst hn
  have := (World.ownsRow.stored h j u).1
  unfold CO
  rw [List.length_set]
  exact this
theorem CO.take {g n c : Nat} (h : CO base t w (.slice (some ⟨g, 0, none⟩) n c) vs) {k : Nat} (hk : k ≤ vs.length) : CO base t w (.slice (some ⟨g, 0, none⟩) k c) (vs.take k) := by
  have hl : (vs.take k).length = k := by rw [List.length_take]; omega
  unfold CO
  rw [hl]
  refine ⟨by rw [hl, Nat.mul_one], ?_⟩
  rcases h.2 with ⟨e, _⟩ | ⟨g', cap, cur, e, h4, hg, h5, h6, h7, h8⟩
  · cases e
  · cases e
    refine .inr ⟨g, c, cur, rfl, h4, hg, by omega, h6, h7, ?_⟩
    rw [← h8, List.take_take]
    congr 1
    omega

/-- Cells put behind those of one's own, from whatever slice. -/
theorem run_append_co {P : Program} (st ty : TypeId) (z : Value) (by8 : Nat) (hst : P.underlying st = some (.slice t)) (hinf : (P.info? t).map (fun i => (i.zero, i.size, i.bytes)) = some (some z, 1, by8)) (hz1 : z.cells.size = 1) (hb8 : by8 ≤ 24) {x : Value} (hown : CO base t w v vs) (hx : CS w x us) (h1 : ∀ u ∈ us, u.oneCell' = true) (hlen : vs.length + us.length ≤ 1000000) (hbase : base ≤ w.heap.size) :
    ∃ v' w', (Builtin.append_ #[st, st] ty #[v, x]).run P w = .ok v' w' ∧ CO base t w' v' (vs ++ us) ∧ Stay (fun k => v.ownBlock = some k) w w' ∧ (v'.ownBlock = v.ownBlock ∨ v'.ownBlock = some w.heap.size) := by
  obtain ⟨i0, hi, hz, hsize, hby⟩ := info_parts hinf
  obtain ⟨a0, c, rfl, hc, hm, hn, hr⟩ := hx
  have hbb : (vs.length + us.length) * by8 ≤ 140737488355328 := by
    have : (vs.length + us.length) * by8 ≤ 1000000 * 24 := Nat.mul_le_mul hlen hb8
    omega
  cases a0 with
  | none =>
    obtain rfl := hn rfl
    have hM : us = [] := List.eq_nil_of_length_eq_zero (by omega)
    subst hM
    have h1 := run_append_owned_none (P := P) w base st ty _ i0 1 hst hi v vs.length vs hown
    exact ⟨v, w, h1, by rw [List.append_nil]; exact hown, Stay.refl _ _, .inl rfl⟩
  | some ad =>
    by_cases h0 : us.length = 0
    · have hM : us = [] := List.eq_nil_of_length_eq_zero h0
      subst hM
      obtain ⟨v', w', q1, q2, q3, _, q5⟩ := run_append_own_at (P := P) w base st ty _ i0 z 1 by8 hst hi hz hsize hby hz1 (by decide) v vs.length vs hown ad 0 c [] rfl (fun j u hu => by simp at hu) (fun u hu => by simp at hu) (by unfold maxLen; simp at hlen; omega) (by simpa using hbb) hbase
      exact ⟨v', w', q1, by rw [List.append_nil] at q2; rw [List.append_nil]; exact q2, Stay.grown q3 (fun k hk => hk), q5⟩
    · obtain ⟨g, o, e, hcell⟩ := hr (by omega)
      cases e
      obtain ⟨v', w', q1, q2, q3, _, q5⟩ := run_append_own_at (P := P) w base st ty _ i0 z 1 by8 hst hi hz hsize hby hz1 (by decide) v vs.length vs hown ⟨g, o, none⟩ us.length c us (by rw [Nat.mul_one])
        (fun j u hu => by rw [add_at]; exact hcell j u hu) h1 (by unfold maxLen; omega) hbb hbase
      exact ⟨v', w', q1, by unfold CO; rw [List.length_append]; exact q2, Stay.grown q3 (fun k hk => hk), q5⟩
theorem wpList_append_co {P : Program} {ops : Array Oper} {rest : List Oper} {o : Oper} {a : Act} {Q : Exit → Act → World → Prop} (hgd : o.guard = none) (s y : Operand) (st : TypeId)
    (ho : o.op = .call { callee := .builtin .append, args := #[s, y], argTypes := #[st, st] }) (z : Value) (by8 : Nat) (hst : P.underlying st = some (.slice t)) (hinf : (P.info? t).map (fun i => (i.zero, i.size, i.bytes)) = some (some z, 1, by8)) (hz1 : z.cells.size = 1) (hb8 : by8 ≤ 24) {x : Value} (hs : a.eval s = v) (hy : a.eval y = x) (hown : CO base t w v vs) (hx : CS w x us) (h1 : ∀ u ∈ us, u.oneCell' = true) (hlen : vs.length + us.length ≤ 1000000) (hbase : base ≤ w.heap.size)
    (h : ∀ v' w', CO base t w' v' (vs ++ us) → Stay (fun k => v.ownBlock = some k) w w' → (v'.ownBlock = v.ownBlock ∨ v'.ownBlock = some w.heap.size) → wpList P ops Q rest (a.put o.dst v') w') : wpList P ops Q (o :: rest) a w :=
  wpList_plain hgd fun _ hK => by
    obtain ⟨v', w', hrun, h2, h3, h4⟩ := run_append_co (P := P) st o.type z by8 hst hinf hz1 hb8 hown hx h1 hlen hbase
    unfold Oper.wp execOp
    simp only [ho, resolve, invoke, builtin, Sem.run_bind, Sem.run_pure, Result.andThen_ok, List.map_toArray, List.map_cons, List.map_nil, hs, hy, hrun]
    exact hK _ _ (h v' w' h2 h3 h4)
end

/-- Pointers. -/
def ptrV (p : Nat) : Value := .pointer (some ⟨p, 0, none⟩)
def ptrs (ss : List Nat) : List Value := ss.map ptrV
theorem len_ptrs (ss : List Nat) : (ptrs ss).length = ss.length := by simp [ptrs]
theorem at_ptrs {ss : List Nat} {j s : Nat} (h : ss[j]? = some s) : (ptrs ss)[j]? = some (ptrV s) := by simp [ptrs, h]
theorem ptrs_append (A B : List Nat) : ptrs (A ++ B) = ptrs A ++ ptrs B := by simp [ptrs]
theorem one_ptrs (ss : List Nat) : ∀ u ∈ ptrs ss, u.oneCell' = true := by
  intro u hu
  obtain ⟨s, _, rfl⟩ := List.mem_map.1 hu
  rfl
theorem info_sh : (Tryz.prog.info? 81).map (fun i => (i.zero, i.size, i.bytes)) = some (some (.pointer none), 1, 8) := by kernel_rfl
theorem info_lv : (Tryz.prog.info? 85).map (fun i => (i.zero, i.size, i.bytes)) = some (some (.slice none 0 0), 1, 24) := by kernel_rfl

/-- A table, by what its calls answer: its parts, all of its entries. -/
structure TabOk (W : World) (t : Nat) (C : List (List En)) : Prop where
  parts : Calls Tryz.prog 114 #[ptrV t] W fun e w' => e = .returned (.int .i64 (C.length : Int)) ∧ Stay (fun _ => False) W w'
  part : ∀ (i : Nat) (c : List En), C[i]? = some c → Calls Tryz.prog 106 #[ptrV t, .int .i64 (i : Int)] W fun e w' => (∃ v, e = .returned (.tuple #[v, .nilIface]) ∧ EnO W.heap.size w' v c) ∧ Stay (fun _ => False) W w'
  all : Calls Tryz.prog 74 #[ptrV t] W fun e w' => (∃ v, e = .returned (.tuple #[v, .nilIface]) ∧ EnO W.heap.size w' v C.flatten) ∧ Stay (fun _ => False) W w'
/-- A key's entry, by its call. -/
def TabGet (W : World) (t : Nat) (L : List En) : Prop := ∀ k : List UInt8, k.length ≤ 140737488351232 → Calls Tryz.prog 127 #[ptrV t, .string ⟨k.toArray⟩] W fun e w' => e = .returned (.tuple #[enV (entOf (getL L k)), .bool (getL L k).isSome, .nilIface]) ∧ Stay (fun _ => False) W w'

/-- A table that levels and views hold: where it lies, its parts, its bytes. -/
structure Sh where
  s : Nat
  C : List (List En)
  b : List UInt8
def Sh.L (q : Sh) : List En := q.C.flatten
/-- Its parts can be. -/
structure Sh.Ok (q : Sh) : Prop where
  srt : Sorted q.L
  nrm : Nrm q.L
  ne : ∀ c ∈ q.C, c ≠ []
  len : q.L.length ≤ 100000
/-- The table, and its bytes, whatever turns but F. -/
def Tab (G : Prop) (F : Nat → Prop) (w : World) (t : Nat) (bv : Value) (q : Sh) : Prop := ∀ W, Stay (fun k => ¬ F k) w W → TabOk W t q.C ∧ (G → TabGet W t q.L) ∧ Slc W bv q.b
theorem Tab.stay {G : Prop} {F F' X : Nat → Prop} {w w' : World} {t : Nat} {bv : Value} {q : Sh} (h : Tab G F w t bv q) (hs : Stay X w w') (hX : ∀ k, k < w.heap.size → X k → ¬ F k) (hF : ∀ k, k < w.heap.size → F k → F' k) : Tab G F' w' t bv q := by
  intro W hW
  have h1 : Stay (fun k => ¬ F k) w w' := ⟨hs.os, hs.tape, hs.output, hs.size, fun k hk hb => hs.block k hk (fun hx => hb (hX k hk hx))⟩
  exact h W (h1.andThen hW (fun k hk hb h => hb (hF k hk h)))
/-- A shared table in memory; n hold it. -/
def ShAt (G : Prop) (B F : Nat → Prop) (w : World) (x : Nat) (n : Nat) (q : Sh) : Prop :=
  ∃ t bv, w.heap[q.s]? = some (.cells #[ptrV t, bv, .int .i64 (n : Int), .pointer (some ⟨x, 6, none⟩)] 111 (0, 0)) ∧ Tab G F w t bv q ∧ B q.s
theorem ShAt.ty {G : Prop} {B F : Nat → Prop} {w : World} {x n : Nat} {q : Sh} (h : ShAt G B F w x n q) : Ty w q.s 111 := by
  obtain ⟨t, bv, h1, _⟩ := h
  exact ⟨_, _, h1⟩
theorem ShAt.stay {G : Prop} {B B' F F' X : Nat → Prop} {w w' : World} {x n : Nat} {q : Sh} (h : ShAt G B F w x n q) (hs : Stay X w w') (hX : ∀ k, k < w.heap.size → X k → ¬ F k) (hB : ∀ k, k < w.heap.size → B k → B' k) (hF : ∀ k, k < w.heap.size → F k → F' k) (hq : ¬ X q.s) : ShAt G B' F' w' x n q := by
  obtain ⟨t, bv, h1, h2, h3⟩ := h
  have hl : q.s < w.heap.size := (Array.getElem?_eq_some_iff.1 h1).1
  exact ⟨t, bv, (hs.block _ hl hq).trans h1, h2.stay hs hX hF, hB _ hl h3⟩

/-- Levels in memory: a row of rows of pointers, each of one's own. -/
structure LvAt (B : Nat → Prop) (w : World) (v : Value) (vs : List Value) (LS : List (List Nat)) : Prop where
  out : CO 0 85 w v vs
  len : vs.length = LS.length
  row : ∀ (i : Nat) (ss : List Nat) (u : Value), LS[i]? = some ss → vs[i]? = some u → CO 0 81 w u (ptrs ss)
  dif : ∀ (i j : Nat) (u u' : Value) (k : Nat), vs[i]? = some u → vs[j]? = some u' → u.ownBlock = some k → u'.ownBlock = some k → i = j
  bo : ∀ k, v.ownBlock = some k → B k
  bi : ∀ u ∈ vs, ∀ k, u.ownBlock = some k → B k
theorem LvAt.at {B : Nat → Prop} {w : World} {v : Value} {vs : List Value} {LS : List (List Nat)} (h : LvAt B w v vs LS) {i : Nat} {ss : List Nat} (hi : LS[i]? = some ss) : ∃ u, vs[i]? = some u ∧ CO 0 81 w u (ptrs ss) := by
  have hl := (List.getElem?_eq_some_iff.1 hi).1
  obtain ⟨u, hu⟩ : ∃ u, vs[i]? = some u := ⟨_, List.getElem?_eq_getElem (by rw [h.len]; exact hl)⟩
  exact ⟨u, hu, h.row i ss u hi hu⟩
theorem LvAt.rows {B : Nat → Prop} {w : World} {v : Value} {vs : List Value} {LS : List (List Nat)} (h : LvAt B w v vs LS) {i : Nat} {u : Value} (hi : vs[i]? = some u) : ∃ ss, LS[i]? = some ss ∧ CO 0 81 w u (ptrs ss) := by
  have hl := (List.getElem?_eq_some_iff.1 hi).1
  obtain ⟨ss, hs⟩ : ∃ ss, LS[i]? = some ss := ⟨_, List.getElem?_eq_getElem (by rw [← h.len]; exact hl)⟩
  exact ⟨ss, hs, h.row i ss u hs hi⟩
theorem LvAt.stay {B B' X : Nat → Prop} {w w' : World} {v : Value} {vs : List Value} {LS : List (List Nat)} (h : LvAt B w v vs LS) (hs : Stay X w w') (hX : ∀ k, X k → ¬ Ty w k 85 ∧ ¬ Ty w k 81) (hB : ∀ k, k < w.heap.size → B k → B' k) : LvAt B' w' v vs LS := by
  refine ⟨h.out.stay hs (fun k hk hx => (hX k hx).1 (h.out.ty k hk)), h.len, fun i ss u h1 h2 => (h.row i ss u h1 h2).stay hs (fun k hk hx => (hX k hx).2 ((h.row i ss u h1 h2).ty k hk)), h.dif, fun k hk => hB k (h.out.lt k hk).2 (h.bo k hk), fun u hu k hk => ?_⟩
  obtain ⟨i, hi⟩ := List.getElem?_of_mem hu
  obtain ⟨ss, _, h2⟩ := h.rows hi
  exact hB k (h2.lt k hk).2 (h.bi u hu k hk)

/-- What an index is. -/
structure Im where
  g : Prop
  m : Nat
  f : Nat
  p : Nat
  q : Nat
  A : List En
  LS : List (List Sh)
  T : List Sh
  hc : Nat → Nat
  hd : Nat
  mg : Bool
/-- Its levels, as memory has them. -/
def lvs (LS : List (List Sh)) : List (List Nat) := LS.map (·.map (·.s))
/-- An index's cells. -/
def ixC (I : Im) (a : Nat) (v : Value) : List Value := [.int .i64 (I.m : Int), .int .i64 (I.f : Int), .int .i64 (I.p : Int), .int .i64 (I.q : Int), ptrV a, v, .int .i64 (I.hd : Int), .bool I.mg]
/-- An index in memory, but for its Mem; all that may turn of it lies in B, its tables in F. -/
structure IxC (B F : Nat → Prop) (w : World) (x : Nat) (I : Im) (a : Nat) (v : Value) (vs : List Value) : Prop where
  blk : w.heap[x]? = some (.cells (ixC I a v).toArray 76 (0, 0))
  lv : LvAt B w v vs (lvs I.LS)
  bx : B x
  dj : ∀ k, B k → ¬ F k
  sh : ∀ q ∈ I.T, ShAt I.g B F w x (I.hc q.s) q
  sub : ∀ l ∈ I.LS, ∀ q ∈ l, q ∈ I.T
  nd : (I.T.map (·.s)).Nodup
  ok : ∀ q ∈ I.T, q.Ok
section
variable {B B' F F' X : Nat → Prop} {w w' : World} {x a : Nat} {I : Im} {v : Value} {vs : List Value}
theorem IxC.ty (h : IxC B F w x I a v vs) : Ty w x 76 := ⟨_, _, h.blk⟩
theorem IxC.lt (h : IxC B F w x I a v vs) : x < w.heap.size := h.ty.lt
theorem IxC.c (h : IxC B F w x I a v vs) {j : Nat} {u : Value} (hu : (ixC I a v)[j]? = some u) : w.cell? ⟨x, j, none⟩ = some u := by
  rw [cell_of_row w x j _ _ _ h.blk]
  simpa using hu
theorem IxC.fr (h : IxC B F w x I a v vs) (j : Nat) : w.frozen? ⟨x, j, none⟩ = false := frozen_of_row w x j _ _ h.blk
/-- Blocks of other kinds turn. -/
theorem IxC.stay (h : IxC B F w x I a v vs) (hs : Stay X w w') (hX : ∀ k, k < w.heap.size → X k → ¬ F k) (hB : ∀ k, k < w.heap.size → B k → B' k) (hF : ∀ k, k < w.heap.size → F k → F' k) (hd : ∀ k, B' k → ¬ F' k)
    (hT : ∀ k, X k → ¬ Ty w k 76 ∧ ¬ Ty w k 85 ∧ ¬ Ty w k 81 ∧ ¬ Ty w k 111) : IxC B' F' w' x I a v vs :=
  ⟨(hs.block x h.lt (fun hx => (hT x hx).1 h.ty)).trans h.blk, h.lv.stay hs (fun k hk => ⟨(hT k hk).2.1, (hT k hk).2.2.1⟩) hB, hB x h.lt h.bx, hd, fun q hq => (h.sh q hq).stay hs hX hB hF (fun hx => (hT _ hx).2.2.2 (h.sh q hq).ty), h.sub, h.nd, h.ok⟩
theorem IxC.stay0 (h : IxC B F w x I a v vs) (hs : Stay (fun _ => False) w w') : IxC B F w' x I a v vs := h.stay hs (fun _ _ x => x.elim) (fun _ _ h => h) (fun _ _ h => h) h.dj (fun _ x => x.elim)
/-- Blocks that are none of its turn. -/
theorem IxC.away (h : IxC B F w x I a v vs) (hs : Stay X w w') (hX : ∀ k, X k → ¬ B k ∧ ¬ F k) : IxC B F w' x I a v vs :=
  ⟨(hs.block x h.lt (fun hx => (hX x hx).1 h.bx)).trans h.blk, ⟨h.lv.out.stay hs (fun k hk hx => (hX k hx).1 (h.lv.bo k hk)), h.lv.len, fun i ss u q1 q2 => (h.lv.row i ss u q1 q2).stay hs (fun k hk hx => (hX k hx).1 (h.lv.bi u (List.mem_of_getElem? q2) k hk)), h.lv.dif, h.lv.bo, h.lv.bi⟩, h.bx, h.dj, fun q hq => (h.sh q hq).stay hs (fun k _ hx => (hX k hx).2) (fun _ _ h => h) (fun _ _ h => h) (fun hx => by obtain ⟨_, _, _, _, hb⟩ := h.sh q hq; exact (hX _ hx).1 hb), h.sub, h.nd, h.ok⟩
/-- In smaller sets: of what there is. -/
theorem IxC.trim (h : IxC B F w x I a v vs) : IxC (fun k => B k ∧ k < w.heap.size) (fun k => F k ∧ k < w.heap.size) w x I a v vs := h.stay (Stay.refl (fun _ => False) w) (fun _ _ x => x.elim) (fun k hk hb => ⟨hb, hk⟩) (fun k hk hb => ⟨hb, hk⟩) (fun k h1 h2 => h.dj k h1.1 h2.1) (fun _ x => x.elim)
end

/-- The blocks of a Mem. -/
def MB (w : World) (a k : Nat) : Prop := k = a ∨ ∃ u, w.cell? ⟨a, 0, none⟩ = some u ∧ u.ownBlock = some k
theorem MAt.own {B : Nat → Prop} {w : World} {a : Nat} {L : List En} (h : MAt B w a L) : MAt (MB w a) w a L ∧ (∀ k, MB w a k → B k ∧ k < w.heap.size ∧ (Ty w k 123 ∨ Ty w k 42)) := by
  obtain ⟨v, h1, h2, h3⟩ := h.ex
  have c0 : w.cell? ⟨a, 0, none⟩ = some v := by rw [cell_of_row w a 0 _ _ _ h1]; rfl
  refine ⟨⟨⟨v, h1, h2, fun k hk => ⟨.inr ⟨v, c0, hk⟩, (h3 k hk).2⟩⟩, .inl rfl, h.srt⟩, fun k hk => ?_⟩
  rcases hk with rfl | ⟨u, hu, hk⟩
  · exact ⟨h.bp, h.lt, .inl ⟨_, _, h1⟩⟩
  · rw [c0] at hu
    cases hu
    refine ⟨(h3 k hk).1, (h2.lt k hk).2, .inr ?_⟩
    obtain ⟨cs, fr, hg⟩ := (Mg.EnO.ent h2).2 k hk
    exact ⟨cs, fr, hg⟩
/-- The numbers of a config can be. -/
structure Cfg (I : Im) : Prop where
  m1 : 1 ≤ I.m
  m2 : I.m ≤ 1000
  f1 : 1 ≤ I.f
  f2 : I.f ≤ 16
  p1 : 1 ≤ I.p
  p2 : I.p ≤ 1000
  q1 : 1 ≤ I.q
  q2 : I.q ≤ 64
/-- An index in memory, all its blocks among A. -/
structure IxAt (A : Nat → Prop) (w : World) (x : Nat) (I : Im) : Prop where
  ex : ∃ (B F : Nat → Prop) (a : Nat) (v : Value) (vs : List Value), (∀ k, B k → A k) ∧ (∀ k, F k → A k) ∧ (∀ k, B k ∨ F k → k < w.heap.size) ∧ IxC B F w x I a v vs ∧ MAt B w a I.A
  nrm : Nrm I.A
  cfg : Cfg I
section
variable {A A' X : Nat → Prop} {w w' : World} {x : Nat} {I : Im}
theorem IxAt.stay (h : IxAt A w x I) (hs : Stay X w w') (hX : ∀ k, A k → ¬ X k) : IxAt A w' x I := by
  obtain ⟨B, F, a, v, vs, hB, hF, hl, h1, h2⟩ := h.ex
  exact ⟨⟨B, F, a, v, vs, hB, hF, fun k hk => Nat.lt_of_lt_of_le (hl k hk) hs.size, h1.away hs (fun k hk => ⟨fun hb => hX k (hB k hb) hk, fun hb => hX k (hF k hb) hk⟩), h2.stay hs (fun k hb => hX k (hB k hb))⟩, h.nrm, h.cfg⟩
theorem IxAt.stay0 (h : IxAt A w x I) (hs : Stay (fun _ => False) w w') : IxAt A w' x I := h.stay hs (fun _ _ x => x)
theorem IxAt.mono (h : IxAt A w x I) (hA : ∀ k, k < w.heap.size → A k → A' k) : IxAt A' w x I := by
  obtain ⟨B, F, a, v, vs, hB, hF, hl, h1, h2⟩ := h.ex
  exact ⟨⟨B, F, a, v, vs, fun k hk => hA k (hl k (.inl hk)) (hB k hk), fun k hk => hA k (hl k (.inr hk)) (hF k hk), hl, h1, h2⟩, h.nrm, h.cfg⟩
theorem IxAt.lt (h : IxAt A w x I) : x < w.heap.size := by
  obtain ⟨B, F, a, v, vs, hB, hF, hl, h1, h2⟩ := h.ex
  exact h1.lt
end
/-- What an index is behind a call that changed it. -/
def Ixd (A : Nat → Prop) (w w' : World) (x : Nat) (I' : Im) : Prop := IxAt (fun k => A k ∨ w.heap.size ≤ k) w' x I' ∧ Stay A w w'
theorem Ixd.trans {A : Nat → Prop} {w w1 w2 : World} {x : Nat} {I2 : Im} (hs : Stay A w w1) (h : Ixd (fun k => A k ∨ w.heap.size ≤ k) w1 w2 x I2) : Ixd A w w2 x I2 :=
  ⟨h.1.mono (fun k hk hb => by
    rcases hb with hb | hb
    · exact hb
    · have := hs.size
      exact .inr (by omega)), hs.andThen h.2 (fun k hk h => h.elim id (fun h => by omega))⟩
theorem Ixd.zero {A : Nat → Prop} {w w' : World} {x : Nat} {I : Im} (h : IxAt A w x I) (hs : Stay (fun _ => False) w w') : Ixd A w w' x I := ⟨(h.stay0 hs).mono (fun k _ hb => .inl hb), hs.mono (fun _ x => x.elim)⟩
theorem Ixd.first {A : Nat → Prop} {w w1 w2 : World} {x : Nat} {I : Im} (hs : Stay (fun _ => False) w w1) (h : Ixd A w1 w2 x I) : Ixd A w w2 x I :=
  ⟨h.1.mono (fun k hk hb => by
    have := hs.size
    rcases hb with hb | hb
    · exact .inl hb
    · exact .inr (by omega)), (hs.mono (fun _ x => x.elim)).trans h.2⟩
end Go.Proofs.YtljlfdhjolcnaaaGreat.Ix

/-
  index: a table of its own bytes by what its calls answer; atomic numbers; one more holds a table, one less.
-/
namespace Go.Proofs.YtljlfdhjolcnaaaGreat.Ix
open Go.RowKit Go.Maps Me Mg
open Pk (Owns Slc)
open Tb (TAt cN chunk)
set_option maxRecDepth 100000
set_option linter.unusedVariables false

/-- The parts of entries. -/
def partsL (L : List En) (p : Nat) : List (List En) := (List.range (cN L.length p)).map (chunk L p)
theorem parts_take (L : List En) (p : Nat) : ∀ m, ((List.range m).map (chunk L p)).flatten = L.take (m * p)
  | 0 => by simp
  | m + 1 => by
    rw [List.range_succ, List.map_append, List.flatten_append, parts_take L p m, ← Tb.take_chunk]
    simp
theorem parts_flat {L : List En} {p : Nat} (hp : 1 ≤ p) : (partsL L p).flatten = L := by
  unfold partsL
  rw [parts_take, List.take_of_length_le (Tb.cN_end hp)]
theorem parts_at {L : List En} {p i : Nat} {c : List En} (h : (partsL L p)[i]? = some c) : i < cN L.length p ∧ c = chunk L p i := by
  unfold partsL at h
  have hl := (List.getElem?_eq_some_iff.1 h).1
  simp at hl
  simp [List.getElem?_range hl] at h
  exact ⟨hl, h.symm⟩
theorem parts_ne {L : List En} {p : Nat} (hp : 1 ≤ p) : ∀ c ∈ partsL L p, c ≠ [] := by
  intro c hc
  obtain ⟨i, hi⟩ := List.getElem?_of_mem hc
  obtain ⟨h1, rfl⟩ := parts_at hi
  have h2 := (Tb.cN_lt hp).1 h1
  intro h3
  have h4 := Tb.length_chunk L p i
  rw [h3] at h4
  simp at h4
  omega
theorem tab_ok {W : World} {t p q : Nat} {L : List En} (h : TAt W t L p q) : TabOk W t (partsL L p) := by
  refine ⟨?_, fun i c hc => ?_, ?_⟩
  · refine (Tb.parts_any W t p q L h).mono ?_
    rintro e w' ⟨rfl, rfl⟩
    exact ⟨by simp [partsL], Stay.refl _ _⟩
  · obtain ⟨h1, rfl⟩ := parts_at hc
    exact Tb.part_any W t p q i L h h1
  · rw [parts_flat h.p1]
    exact Tb.entries_any W t p q L h
theorem tab_get {W : World} {t p q : Nat} {L : List En} (h : TAt W t L p q) : TabGet W t L := fun k hk => Tb.get_any W t p q L k h hk

/-- A number is added to an atomic one. -/
theorem add_any (w : World) (k o : Nat) (x y s : Int) (hc : w.cell? ⟨k, o, none⟩ = some (.int .i64 x)) (hz : w.frozen? ⟨k, o, none⟩ = false) (hs : (Op.intArith .add .i64 x y).run Tryz.prog w = .ok (.int .i64 s) w) :
    Calls Tryz.prog 94 #[.pointer (some ⟨k, o, none⟩), .int .i64 y] w fun e w' => e = .returned (.int .i64 s) ∧ w' = w.setCell ⟨k, o, none⟩ (.int .i64 s) := by
  have hadd := run_call_add (P := Tryz.prog) Tryz.func126 (by kernel_rfl) (by kernel_rfl) (by kernel_rfl) .i64 (by kernel_rfl) (y := y) (s := s) hc hz hs
  clear hs
  go_enter Tryz.func94, Tryz.ntmps94
  go_wp2
  go_ret
  exact ⟨rfl, rfl⟩
theorem load_any (w : World) (k o : Nat) (x : Int) (hc : w.cell? ⟨k, o, none⟩ = some (.int .i64 x)) :
    Calls Tryz.prog 62 #[.pointer (some ⟨k, o, none⟩)] w fun e w' => e = .returned (.int .i64 x) ∧ w = w' := by
  have hl := run_call_load (P := Tryz.prog) Tryz.func95 (by kernel_rfl) (by kernel_rfl) (by kernel_rfl) .i64 (by kernel_rfl) (x := x) hc
  go_enter Tryz.func62, Tryz.ntmps62
  go_wp2
  go_ret
  exact ⟨rfl, rfl⟩
theorem plus_run (w : World) (n : Nat) (hn : n ≤ 1000000) : (Op.intArith .add .i64 (n : Int) 1).run Tryz.prog w = .ok (.int .i64 ((n + 1 : Nat) : Int)) w := by
  simp [go_sem]
  rw [IntKind.wrap_i64]
  omega
theorem less_run (w : World) (n : Nat) (hn : n ≤ 1000000) (h1 : 1 ≤ n) : (Op.intArith .add .i64 (n : Int) (-1)).run Tryz.prog w = .ok (.int .i64 ((n - 1 : Nat) : Int)) w := by
  simp [go_sem]
  rw [IntKind.wrap_i64]
  omega

/-- A shared table's cells. -/
def shC (tp bv : Value) (n x : Nat) : List Value := [tp, bv, .int .i64 (n : Int), .pointer (some ⟨x, 6, none⟩)]
section
variable {w : World} {s x n h : Nat} {tp bv : Value}
theorem hold_more (hs : w.heap[s]? = some (.cells (shC tp bv n x).toArray 111 (0, 0))) (hn : n ≤ 1000000) (hn0 : 1 ≤ n) :
    Calls Tryz.prog 59 #[.pointer (some ⟨s, 0, none⟩)] w fun e w' => e = .returned (.tuple #[]) ∧ w' = w.setCell ⟨s, 2, none⟩ (.int .i64 ((n + 1 : Nat) : Int)) := by
  have c2 : w.cell? ⟨s, 2, none⟩ = some (.int .i64 (n : Int)) := by rw [cell_of_row w s 2 _ _ _ hs]; rfl
  have f2 := frozen_of_row w s 2 _ _ hs
  have HA := Lib.hid (add_any w s 2 n 1 ((n + 1 : Nat) : Int) c2 f2 (plus_run w n hn))
  obtain ⟨m, hm⟩ : ∃ m, m = n + 1 := ⟨_, rfl⟩
  rw [← hm] at HA ⊢
  have hm1 : ((m : Int) == 1) = false := by simp; omega
  clear hs hn hn0 c2 f2 hm
  go_enter Tryz.func59, Tryz.ntmps59
  go_wp2_with fail
  refine HA.out.mono ?_
  rintro e w1 ⟨rfl, rfl⟩
  go_wp2
  exact bodyPost_end (results_none rfl _ _ _) rfl ⟨rfl, rfl⟩
theorem hold_first (hs : w.heap[s]? = some (.cells (shC tp bv 0 x).toArray 111 (0, 0))) (hx : w.cell? ⟨x, 6, none⟩ = some (.int .i64 (h : Int))) (hxf : w.frozen? ⟨x, 6, none⟩ = false) (hne : ¬ x = s) (hh : h ≤ 1000000) :
    Calls Tryz.prog 59 #[.pointer (some ⟨s, 0, none⟩)] w fun e w' => e = .returned (.tuple #[]) ∧ w' = (w.setCell ⟨s, 2, none⟩ (.int .i64 1)).setCell ⟨x, 6, none⟩ (.int .i64 ((h + 1 : Nat) : Int)) := by
  have c2 : w.cell? ⟨s, 2, none⟩ = some (.int .i64 0) := by rw [cell_of_row w s 2 _ _ _ hs]; rfl
  have f2 := frozen_of_row w s 2 _ _ hs
  have hs1 := heap_setCell_same w s 2 _ _ (.int .i64 1) hs
  have c3 : (w.setCell ⟨s, 2, none⟩ (.int .i64 1)).cell? ⟨s, 3, none⟩ = some (.pointer (some ⟨x, 6, none⟩)) := by rw [cell_of_row _ s 3 _ _ _ hs1]; rfl
  have hst : Stay (· = s) w (w.setCell ⟨s, 2, none⟩ (.int .i64 1)) := Stay.setCell _ _ _ rfl
  have d6 := hst.cell hx (fun e => hne e)
  have g6 : (w.setCell ⟨s, 2, none⟩ (.int .i64 1)).frozen? ⟨x, 6, none⟩ = false := by go_simp
  have HA := Lib.hid (add_any w s 2 0 1 1 c2 f2 (plus_run w 0 (by decide)))
  have HB := Lib.hid (add_any _ x 6 h 1 ((h + 1 : Nat) : Int) d6 g6 (plus_run _ h hh))
  obtain ⟨w1, hw1⟩ : ∃ w1, w1 = w.setCell ⟨s, 2, none⟩ (.int .i64 1) := ⟨_, rfl⟩
  rw [← hw1] at HA HB c3 ⊢
  obtain ⟨m, hm⟩ : ∃ m, m = h + 1 := ⟨_, rfl⟩
  rw [← hm] at HB ⊢
  clear hs hs1 hst hx hxf c2 f2 d6 g6 hw1 hm
  go_enter Tryz.func59, Tryz.ntmps59
  go_wp2_with fail
  refine HA.out.mono ?_
  rintro e w2 ⟨rfl, rfl⟩
  go_wp2_with fail
  refine HB.out.mono ?_
  rintro e w2 ⟨rfl, rfl⟩
  go_wp2
  exact bodyPost_end (results_none rfl _ _ _) rfl ⟨rfl, rfl⟩
theorem let_more (hs : w.heap[s]? = some (.cells (shC tp bv (n + 2) x).toArray 111 (0, 0))) (hn : n ≤ 900000) :
    Calls Tryz.prog 60 #[.pointer (some ⟨s, 0, none⟩)] w fun e w' => e = .returned (.tuple #[]) ∧ w' = w.setCell ⟨s, 2, none⟩ (.int .i64 ((n + 1 : Nat) : Int)) := by
  have c2 : w.cell? ⟨s, 2, none⟩ = some (.int .i64 ((n + 2 : Nat) : Int)) := by rw [cell_of_row w s 2 _ _ _ hs]; rfl
  have f2 := frozen_of_row w s 2 _ _ hs
  have HA := Lib.hid (add_any w s 2 ((n + 2 : Nat) : Int) (-1) ((n + 1 : Nat) : Int) c2 f2 (less_run w (n + 2) (by omega) (by omega)))
  obtain ⟨m, hm⟩ : ∃ m, m = n + 1 := ⟨_, rfl⟩
  rw [← hm] at HA ⊢
  have hm1 : ((m : Int) == 0) = false := by simp; omega
  clear hs hn c2 f2 hm
  go_enter Tryz.func60, Tryz.ntmps60
  go_wp2_with fail
  refine HA.out.mono ?_
  rintro e w1 ⟨rfl, rfl⟩
  go_wp2
  exact bodyPost_end (results_none rfl _ _ _) rfl ⟨rfl, rfl⟩
theorem let_last (hs : w.heap[s]? = some (.cells (shC tp bv 1 x).toArray 111 (0, 0))) (hx : w.cell? ⟨x, 6, none⟩ = some (.int .i64 ((h + 1 : Nat) : Int))) (hxf : w.frozen? ⟨x, 6, none⟩ = false) (hne : ¬ x = s) (hh : h ≤ 900000) :
    Calls Tryz.prog 60 #[.pointer (some ⟨s, 0, none⟩)] w fun e w' => e = .returned (.tuple #[]) ∧ w' = (w.setCell ⟨s, 2, none⟩ (.int .i64 0)).setCell ⟨x, 6, none⟩ (.int .i64 (h : Int)) := by
  have c2 : w.cell? ⟨s, 2, none⟩ = some (.int .i64 1) := by rw [cell_of_row w s 2 _ _ _ hs]; rfl
  have f2 := frozen_of_row w s 2 _ _ hs
  have hs1 := heap_setCell_same w s 2 _ _ (.int .i64 0) hs
  have c3 : (w.setCell ⟨s, 2, none⟩ (.int .i64 0)).cell? ⟨s, 3, none⟩ = some (.pointer (some ⟨x, 6, none⟩)) := by rw [cell_of_row _ s 3 _ _ _ hs1]; rfl
  have hst : Stay (· = s) w (w.setCell ⟨s, 2, none⟩ (.int .i64 0)) := Stay.setCell _ _ _ rfl
  have d6 := hst.cell hx (fun e => hne e)
  have g6 : (w.setCell ⟨s, 2, none⟩ (.int .i64 0)).frozen? ⟨x, 6, none⟩ = false := by go_simp
  have HA := Lib.hid (add_any w s 2 1 (-1) 0 c2 f2 (less_run w 1 (by decide) (by decide)))
  have HB := Lib.hid (add_any _ x 6 ((h + 1 : Nat) : Int) (-1) (h : Int) d6 g6 (less_run _ (h + 1) (by omega) (by omega)))
  obtain ⟨w1, hw1⟩ : ∃ w1, w1 = w.setCell ⟨s, 2, none⟩ (.int .i64 0) := ⟨_, rfl⟩
  rw [← hw1] at HA HB c3 ⊢
  clear hs hs1 hst hx hxf c2 f2 d6 g6 hw1
  go_enter Tryz.func60, Tryz.ntmps60
  go_wp2_with fail
  refine HA.out.mono ?_
  rintro e w2 ⟨rfl, rfl⟩
  go_wp2_with fail
  refine HB.out.mono ?_
  rintro e w2 ⟨rfl, rfl⟩
  go_wp2
  exact bodyPost_end (results_none rfl _ _ _) rfl ⟨rfl, rfl⟩
end
end Go.Proofs.YtljlfdhjolcnaaaGreat.Ix

/-
  index: one more holds a table of an index, one less; how many are held; New; whether an entry is too long.
-/
namespace Go.Proofs.YtljlfdhjolcnaaaGreat.Ix
open Go.RowKit Go.Maps Me Mg
open Pk (Owns Slc)
set_option maxRecDepth 100000
set_option linter.unusedVariables false

theorem MAt.keep {B X : Nat → Prop} {w w' : World} {a : Nat} {L : List En} (h : MAt B w a L) (hs : Stay X w w') (hT : ∀ k, X k → ¬ Ty w k 123 ∧ ¬ Ty w k 42) : MAt B w' a L := by
  obtain ⟨h1, h2⟩ := Ix.MAt.own h
  refine (h1.stay hs (fun k hk hx => ?_)).mono (fun k _ hk => (h2 k hk).1)
  rcases (h2 k hk).2.2 with ht | ht
  · exact (hT k hx).1 ht
  · exact (hT k hx).2 ht

/-- One more holds the table at s. -/
def Im.hold (I : Im) (s : Nat) : Im := { I with hc := fun k => if k = s then I.hc k + 1 else I.hc k, hd := if I.hc s = 0 then I.hd + 1 else I.hd }
/-- One less. -/
def Im.rel (I : Im) (s : Nat) : Im := { I with hc := fun k => if k = s then I.hc k - 1 else I.hc k, hd := if I.hc s = 1 then I.hd - 1 else I.hd }
section
variable {B F : Nat → Prop} {w w' : World} {x a : Nat} {I : Im} {v : Value} {vs : List Value} {L : List En}
theorem sh_inj {T : List Sh} (h : (T.map (·.s)).Nodup) {p q : Sh} (hp : p ∈ T) (hq : q ∈ T) (e : p.s = q.s) : p = q := by
  obtain ⟨i, hi⟩ := List.getElem?_of_mem hp
  obtain ⟨j, hj⟩ := List.getElem?_of_mem hq
  have h1 : (T.map (·.s))[i]? = some p.s := by simp [hi]
  have h2 : (T.map (·.s))[j]? = some q.s := by simp [hj]
  have hij : i = j := by
    rw [← e] at h2
    have hil := (List.getElem?_eq_some_iff.1 h1).1
    exact (List.getElem?_inj hil h).1 (h1.trans h2.symm)
  subst hij
  rw [hi] at hj
  exact Option.some.inj hj
theorem IxC.setS (h : IxC B F w x I a v vs) {q : Sh} (hq : q ∈ I.T) (n : Nat) : IxC B F (w.setCell ⟨q.s, 2, none⟩ (.int .i64 (n : Int))) x { I with hc := fun k => if k = q.s then n else I.hc k } a v vs := by
  have hty := (h.sh q hq).ty
  have hst : Stay (· = q.s) w (w.setCell ⟨q.s, 2, none⟩ (.int .i64 (n : Int))) := Stay.setCell _ _ _ rfl
  have hbq : B q.s := by obtain ⟨_, _, _, _, hb⟩ := h.sh q hq; exact hb
  refine ⟨(hst.block x h.lt (h.ty.ne hty (by decide))).trans h.blk, h.lv.stay hst (fun k hk => ?_) (fun _ _ hb => hb), h.bx, h.dj, fun p hp => ?_, h.sub, h.nd, h.ok⟩
  · subst hk
    exact ⟨fun h2 => absurd (hty.uniq h2) (by decide), fun h2 => absurd (hty.uniq h2) (by decide)⟩
  · by_cases e : p.s = q.s
    · have : p = q := sh_inj h.nd hp hq e
      subst this
      obtain ⟨t, bv, h1, h2, h3⟩ := h.sh p hp
      refine ⟨t, bv, ?_, h2.stay hst (fun k _ hk => by subst hk; exact h.dj _ h3) (fun _ _ h => h), h3⟩
      rw [heap_setCell_same w p.s 2 _ _ _ h1]
      simp
    · have h1 := (h.sh p hp).stay (B' := B) (F' := F) hst (fun k _ hk => by subst hk; exact h.dj _ hbq) (fun _ _ h => h) (fun _ _ h => h) e
      simpa [e] using h1
theorem IxC.setH (h : IxC B F w x I a v vs) (m : Nat) : IxC B F (w.setCell ⟨x, 6, none⟩ (.int .i64 (m : Int))) x { I with hd := m } a v vs := by
  have hst : Stay (· = x) w (w.setCell ⟨x, 6, none⟩ (.int .i64 (m : Int))) := Stay.setCell _ _ _ rfl
  refine ⟨?_, h.lv.stay hst (fun k hk => ?_) (fun _ _ hb => hb), h.bx, h.dj, fun p hp => (h.sh p hp).stay hst (fun k _ hk => by subst hk; exact h.dj _ h.bx) (fun _ _ h => h) (fun _ _ h => h) (fun e => (h.sh p hp).ty.ne h.ty (by decide) e), h.sub, h.nd, h.ok⟩
  · rw [heap_setCell_same w x 6 _ _ _ h.blk]
    rfl
  · subst hk
    exact ⟨fun h2 => absurd (h.ty.uniq h2) (by decide), fun h2 => absurd (h.ty.uniq h2) (by decide)⟩
theorem hold_ix (h : IxC B F w x I a v vs) (hM : MAt B w a L) {q : Sh} (hq : q ∈ I.T) (hn : I.hc q.s ≤ 1000000) (hh : I.hd ≤ 1000000) :
    Calls Tryz.prog 59 #[.pointer (some ⟨q.s, 0, none⟩)] w fun e w' => e = .returned (.tuple #[]) ∧ IxC B F w' x (I.hold q.s) a v vs ∧ MAt B w' a L ∧ Stay (fun k => k = q.s ∨ k = x) w w' := by
  have hty := (h.sh q hq).ty
  have hne : ¬ x = q.s := h.ty.ne hty (by decide)
  obtain ⟨t, bv, h1, _⟩ := h.sh q hq
  by_cases h0 : I.hc q.s = 0
  · rw [h0] at h1
    refine (hold_first h1 (h.c rfl) (h.fr 6) hne hh).mono ?_
    rintro e w' ⟨rfl, rfl⟩
    have k1 := h.setS hq 1
    have k2 := k1.setH (I.hd + 1)
    have hst : Stay (fun k => k = q.s ∨ k = x) w ((w.setCell ⟨q.s, 2, none⟩ (.int .i64 1)).setCell ⟨x, 6, none⟩ (.int .i64 ((I.hd + 1 : Nat) : Int))) := (Stay.setCell _ _ _ (.inl rfl)).trans (Stay.setCell _ _ _ (.inr rfl))
    refine ⟨rfl, ?_, MAt.keep hM hst (fun k hk => ?_), hst⟩
    · have e1 : I.hold q.s = { I with hc := fun k => if k = q.s then 1 else I.hc k, hd := I.hd + 1 } := by
        unfold Im.hold
        rw [if_pos h0]
        congr 1
        funext k
        by_cases hk : k = q.s
        · rw [if_pos hk, if_pos hk, hk, h0]
        · rw [if_neg hk, if_neg hk]
      rw [e1]
      exact k2
    · rcases hk with rfl | rfl
      · exact ⟨fun h2 => absurd (hty.uniq h2) (by decide), fun h2 => absurd (hty.uniq h2) (by decide)⟩
      · exact ⟨fun h2 => absurd (h.ty.uniq h2) (by decide), fun h2 => absurd (h.ty.uniq h2) (by decide)⟩
  · refine (hold_more h1 hn (by omega)).mono ?_
    rintro e w' ⟨rfl, rfl⟩
    have k1 := h.setS hq (I.hc q.s + 1)
    have hst : Stay (fun k => k = q.s ∨ k = x) w (w.setCell ⟨q.s, 2, none⟩ (.int .i64 ((I.hc q.s + 1 : Nat) : Int))) := Stay.setCell _ _ _ (.inl rfl)
    refine ⟨rfl, ?_, MAt.keep hM hst (fun k hk => ?_), hst⟩
    · have e1 : I.hold q.s = { I with hc := fun k => if k = q.s then I.hc q.s + 1 else I.hc k } := by
        unfold Im.hold
        rw [if_neg h0]
        congr 1
        funext k
        by_cases hk : k = q.s
        · rw [if_pos hk, if_pos hk, hk]
        · rw [if_neg hk, if_neg hk]
      rw [e1]
      exact k1
    · rcases hk with rfl | rfl
      · exact ⟨fun h2 => absurd (hty.uniq h2) (by decide), fun h2 => absurd (hty.uniq h2) (by decide)⟩
      · exact ⟨fun h2 => absurd (h.ty.uniq h2) (by decide), fun h2 => absurd (h.ty.uniq h2) (by decide)⟩
theorem let_ix (h : IxC B F w x I a v vs) (hM : MAt B w a L) {q : Sh} (hq : q ∈ I.T) (hn : I.hc q.s ≤ 900000) (hn0 : 1 ≤ I.hc q.s) (hh : I.hd ≤ 900000) (hh0 : I.hc q.s = 1 → 1 ≤ I.hd) :
    Calls Tryz.prog 60 #[.pointer (some ⟨q.s, 0, none⟩)] w fun e w' => e = .returned (.tuple #[]) ∧ IxC B F w' x (I.rel q.s) a v vs ∧ MAt B w' a L ∧ Stay (fun k => k = q.s ∨ k = x) w w' := by
  have hty := (h.sh q hq).ty
  have hne : ¬ x = q.s := h.ty.ne hty (by decide)
  obtain ⟨t, bv, h1, _⟩ := h.sh q hq
  by_cases h0 : I.hc q.s = 1
  · rw [h0] at h1
    obtain ⟨m, hm⟩ : ∃ m, I.hd = m + 1 := ⟨I.hd - 1, by have := hh0 h0; omega⟩
    refine (let_last h1 (h := m) (by rw [← hm]; exact h.c rfl) (h.fr 6) hne (by omega)).mono ?_
    rintro e w' ⟨rfl, rfl⟩
    have k1 := h.setS hq 0
    have k2 := k1.setH m
    have hst : Stay (fun k => k = q.s ∨ k = x) w ((w.setCell ⟨q.s, 2, none⟩ (.int .i64 0)).setCell ⟨x, 6, none⟩ (.int .i64 (m : Int))) := (Stay.setCell _ _ _ (.inl rfl)).trans (Stay.setCell _ _ _ (.inr rfl))
    refine ⟨rfl, ?_, MAt.keep hM hst (fun k hk => ?_), hst⟩
    · have e1 : I.rel q.s = { I with hc := fun k => if k = q.s then 0 else I.hc k, hd := m } := by
        unfold Im.rel
        rw [if_pos h0, show I.hd - 1 = m by omega]
        congr 1
        funext k
        by_cases hk : k = q.s
        · rw [if_pos hk, if_pos hk, hk, h0]
        · rw [if_neg hk, if_neg hk]
      rw [e1]
      exact k2
    · rcases hk with rfl | rfl
      · exact ⟨fun h2 => absurd (hty.uniq h2) (by decide), fun h2 => absurd (hty.uniq h2) (by decide)⟩
      · exact ⟨fun h2 => absurd (h.ty.uniq h2) (by decide), fun h2 => absurd (h.ty.uniq h2) (by decide)⟩
  · obtain ⟨n, hn2⟩ : ∃ n, I.hc q.s = n + 2 := ⟨I.hc q.s - 2, by omega⟩
    rw [hn2] at h1
    refine (let_more h1 (by omega)).mono ?_
    rintro e w' ⟨rfl, rfl⟩
    have k1 := h.setS hq (n + 1)
    have hst : Stay (fun k => k = q.s ∨ k = x) w (w.setCell ⟨q.s, 2, none⟩ (.int .i64 ((n + 1 : Nat) : Int))) := Stay.setCell _ _ _ (.inl rfl)
    refine ⟨rfl, ?_, MAt.keep hM hst (fun k hk => ?_), hst⟩
    · have e1 : I.rel q.s = { I with hc := fun k => if k = q.s then n + 1 else I.hc k } := by
        unfold Im.rel
        rw [if_neg h0]
        congr 1
        funext k
        by_cases hk : k = q.s
        · rw [if_pos hk, if_pos hk, hk, hn2]
          rfl
        · rw [if_neg hk, if_neg hk]
      rw [e1]
      exact k1
    · rcases hk with rfl | rfl
      · exact ⟨fun h2 => absurd (hty.uniq h2) (by decide), fun h2 => absurd (hty.uniq h2) (by decide)⟩
      · exact ⟨fun h2 => absurd (h.ty.uniq h2) (by decide), fun h2 => absurd (h.ty.uniq h2) (by decide)⟩
end

theorem within_any (w : World) (n : Int) (most : Int) : Calls Tryz.prog 26 #[.int .i64 n, .int .i64 most] w fun e w' => e = .returned (.bool (decide (1 ≤ n) && decide (n ≤ most))) ∧ w = w' := by
  go_enter Tryz.func26, Tryz.ntmps26
  go_wp2
  all_goals
    go_ret
    refine ⟨?_, rfl⟩
    simp_all
    try omega
theorem tooLong_any (w : World) (e : En) (hk : e.k.length ≤ 140737488351232) (hv : e.v.length ≤ 140737488351232) : Calls Tryz.prog 64 #[enV e] w fun y w' => y = .returned (.bool (decide (512 < e.k.length + e.v.length))) ∧ Stay (fun _ => False) w w' := by
  have H2 := Lib.hid (show Stay (fun _ => False) w (w.alloc (.cells (enC e).toArray 42)) from Stay.alloc _ _)
  obtain ⟨n, hn⟩ : ∃ n, n = e.k.length := ⟨_, rfl⟩
  obtain ⟨m, hm⟩ : ∃ m, m = e.v.length := ⟨_, rfl⟩
  have hnI : (n : Int) ≤ 140737488351232 := by omega
  have hmI : (m : Int) ≤ 140737488351232 := by omega
  have HE := Lib.hid (show decide ((512 : Int) < (n : Int) + (m : Int)) = decide (512 < e.k.length + e.v.length) by rw [hn, hm]; exact decide_eq_decide.2 (by omega))
  rw [← HE.out]
  unfold enV enC at *
  go_enter Tryz.func64, Tryz.ntmps64
  go_wp2
  go_ret
  exact ⟨by simp [hn, hm], H2.out⟩

/-- An index without entries. -/
def freshI (g : Prop) (m f p q : Nat) : Im := ⟨g, m, f, p, q, [], [], [], fun _ => 0, 0, false⟩
theorem fresh_ix {base : Nat} {w : World} {a : Nat} {g : Prop} {m f p q : Nat} (hM : MAt (fun k => k = a) w a []) (hb : base ≤ a) (h : Cfg (freshI g m f p q)) (hbw : base ≤ w.heap.size) :
    IxAt (fun k => base ≤ k) (w.alloc (.cells (ixC (freshI g m f p q) a (.slice none 0 0)).toArray 76)) w.heap.size (freshI g m f p q) := by
  have hl := hM.lt
  refine ⟨⟨fun k => k = a ∨ k = w.heap.size, fun _ => False, a, .slice none 0 0, [], fun k hk => ?_, fun k hk => hk.elim, fun k hk => ?_, ⟨heap_alloc_new w _, ⟨CO.nil _ _ _, rfl, (fun i ss u h1 => by simp [lvs, freshI] at h1), (fun i j u u' k h1 => by simp at h1), (fun k hk => by cases hk), (fun u hu => by cases hu)⟩, .inr rfl, (fun k _ hk => hk), (fun q hq => by cases hq), (fun l hl => by cases hl), (by simp [freshI]), (fun q hq => by cases hq)⟩, ?_⟩, (fun e he => by cases he), h⟩
  · rcases hk with rfl | rfl
    · exact hb
    · exact hbw
  · rcases hk with (rfl | rfl) | hk
    · simp; omega
    · simp
    · exact hk.elim
  · exact (hM.stay0 (Stay.alloc _ _)).mono (fun k _ hk => .inl hk)
def cfgV (m f p q : Int) : Value := .agg #[.int .i64 m, .int .i64 f, .int .i64 p, .int .i64 q]
set_option maxHeartbeats 1000000 in
theorem new_any (g : Prop) (w : World) (m f p q : Nat) (h : Cfg (freshI g m f p q)) : Calls Tryz.prog 6 #[cfgV m f p q] w fun e w' => (∃ x, e = .returned (.tuple #[.pointer (some ⟨x, 0, none⟩), .nilIface]) ∧ IxAt (fun k => w.heap.size ≤ k) w' x (freshI g m f p q)) ∧ Stay (fun _ => False) w w' := by
  have hd1 : (decide ((1 : Int) ≤ (m : Int)) && decide ((m : Int) ≤ 1000)) = true := by have := h.m1; have := h.m2; simp [freshI] at *; omega
  have hd2 : (decide ((1 : Int) ≤ (f : Int)) && decide ((f : Int) ≤ 16)) = true := by have := h.f1; have := h.f2; simp [freshI] at *; omega
  have hd3 : (decide ((1 : Int) ≤ (p : Int)) && decide ((p : Int) ≤ 1000)) = true := by have := h.p1; have := h.p2; simp [freshI] at *; omega
  have hd4 : (decide ((1 : Int) ≤ (q : Int)) && decide ((q : Int) ≤ 64)) = true := by have := h.q1; have := h.q2; simp [freshI] at *; omega
  have HW1 := Lib.hid (fun W => within_any W m 1000)
  have HW2 := Lib.hid (fun W => within_any W f 16)
  have HW3 := Lib.hid (fun W => within_any W p 1000)
  have HW4 := Lib.hid (fun W => within_any W q 64)
  rw [hd1] at HW1
  rw [hd2] at HW2
  rw [hd3] at HW3
  rw [hd4] at HW4
  have HC := Lib.hid h
  clear hd1 hd2 hd3 hd4 h
  unfold cfgV
  go_enter Tryz.func6, Tryz.ntmps6
  go_wp2_with fail
  refine (HW1.out _).mono ?_
  rintro e w1 ⟨rfl, rfl⟩
  go_wp2_with fail
  refine (HW2.out _).mono ?_
  rintro e w1 ⟨rfl, rfl⟩
  go_wp2_with fail
  refine (HW3.out _).mono ?_
  rintro e w1 ⟨rfl, rfl⟩
  go_wp2_with fail
  refine (HW4.out _).mono ?_
  rintro e w1 ⟨rfl, rfl⟩
  go_wp2
  have hb := heap_alloc_new w (.cells #[.int .i64 (m : Int), .int .i64 (f : Int), .int .i64 (p : Int), .int .i64 (q : Int)] 30)
  have hs0 : Stay (fun _ => False) w (w.alloc (.cells #[.int .i64 (m : Int), .int .i64 (f : Int), .int .i64 (p : Int), .int .i64 (q : Int)] 30)) := Stay.alloc _ _
  obtain ⟨w0, hw0⟩ : ∃ w0, w.alloc (.cells #[.int .i64 (m : Int), .int .i64 (f : Int), .int .i64 (p : Int), .int .i64 (q : Int)] 30) = w0 := ⟨_, rfl⟩
  rw [hw0] at hb hs0 ⊢
  obtain ⟨c, hc⟩ : ∃ c, c = w.heap.size := ⟨_, rfl⟩
  rw [← hc] at hb ⊢
  have c0 : w0.cell? ⟨c, 0, none⟩ = some (.int .i64 (m : Int)) := by rw [cell_of_row w0 c 0 _ _ _ hb]; rfl
  have c1 : w0.cell? ⟨c, 1, none⟩ = some (.int .i64 (f : Int)) := by rw [cell_of_row w0 c 1 _ _ _ hb]; rfl
  have c2 : w0.cell? ⟨c, 2, none⟩ = some (.int .i64 (p : Int)) := by rw [cell_of_row w0 c 2 _ _ _ hb]; rfl
  have c3 : w0.cell? ⟨c, 3, none⟩ = some (.int .i64 (q : Int)) := by rw [cell_of_row w0 c 3 _ _ _ hb]; rfl
  have HS0 := Lib.hid hs0
  have HNW := Lib.hid (Me.new_any w0.drew)
  clear hw0 hb hs0 hc
  go_region_law (first
    | (refine step_call rfl 27 #[] #[] rfl #[] (by simp) (by kernel_rfl) (HNW.out.mono ?_); rintro e w2 ⟨rfl, hm2, hs2⟩; refine ⟨_, rfl, ?_⟩; have d0 := (Stay.drew.trans hs2).cell c0 (fun x => x); have d1 := (Stay.drew.trans hs2).cell c1 (fun x => x); have d2 := (Stay.drew.trans hs2).cell c2 (fun x => x); have d3 := (Stay.drew.trans hs2).cell c3 (fun x => x); have HM2 := Lib.hid (show MAt (fun k => k = w0.heap.size) w2 w0.heap.size [] from hm2); have HS2 := Lib.hid (Stay.drew.trans hs2); clear hm2 hs2))
  all_goals
    have hfr := fresh_ix (base := w.heap.size) (g := g) HM2.out HS0.out.size HC.out (Nat.le_trans HS0.out.size HS2.out.size)
    have hst : Stay (fun _ => False) w (w2.alloc (.cells (ixC (freshI g m f p q) w0.heap.size (.slice none 0 0)).toArray 76)) := (HS0.out.trans HS2.out).trans (Stay.alloc _ _)
    obtain ⟨w3, hw3⟩ : ∃ w3, w2.alloc (.cells (ixC (freshI g m f p q) w0.heap.size (.slice none 0 0)).toArray 76) = w3 := ⟨_, rfl⟩
    rw [hw3] at hfr hst
    rw [show w2.alloc (.cells #[.int .i64 (m : Int), .int .i64 (f : Int), .int .i64 (p : Int), .int .i64 (q : Int), .pointer (some ⟨w0.heap.size, 0, none⟩), .slice none 0 0, .int .i64 0, .bool false] 76) = w3 from hw3]
    have HFR := Lib.hid hfr
    have HST := Lib.hid hst
    clear hfr hst hw3 HM2 HS2 d0 d1 d2 d3
    go_wp2
    refine bodyPost_ret (v := .tuple #[.pointer (some ⟨w2.heap.size, 0, none⟩), .nilIface]) (by simp [results, Tryz.results6, Act.put]) rfl ⟨⟨_, rfl, HFR.out⟩, HST.out⟩
end Go.Proofs.YtljlfdhjolcnaaaGreat.Ix

/-
  index: slices.Grow and slices.Concat at pointers; what an index or a view has, as a stack.
-/
namespace Go.Proofs.YtljlfdhjolcnaaaGreat.Ix
open Go.RowKit Go.Maps Me Mg
open Pk (Owns Slc)
set_option maxRecDepth 100000
set_option linter.unusedVariables false

theorem len_zeroP (k : Nat) : (Builtin.zeroCells (Value.pointer none).cells k).size = k := by
  unfold Builtin.zeroCells
  rw [Array.size_map, Array.size_range]
  simp [Value.cells]
set_option maxHeartbeats 1000000 in
theorem grow_any (w : World) (n : Nat) (hn : n ≤ 1000000) :
    Calls Tryz.prog 73 #[.slice none 0 0, .int .i64 (n : Int)] w fun e w' => ∃ v, e = .returned v ∧ CO w.heap.size 81 w' v [] ∧ Stay (fun _ => False) w w' := by
  by_cases h0 : n = 0
  · subst h0
    go_enter Tryz.func73, Tryz.ntmps73
    go_wp2
    go_ret
    exact ⟨_, rfl, CO.nil _ _ _, Stay.refl _ _⟩
  · obtain ⟨i0, hi0, hz0, hzs, hzb⟩ := info_parts info_sh
    have hold : (Builtin.firstCells i0.size 0 (.slice none 0 0)).run Tryz.prog w.drew = .ok ([] : List Value).toArray w.drew := by simp [Builtin.firstCells]
    obtain ⟨G, hG⟩ : ∃ G, G = grownCap w n 0 81 := ⟨_, rfl⟩
    obtain ⟨R, hR⟩ : ∃ R : List Value, R = (Builtin.zeroCells (Value.pointer none).cells n).toList ++ (Builtin.zeroCells (Value.pointer none).cells (G - n)).toList := ⟨_, rfl⟩
    have hrz : ∀ ty, (Builtin.append_ #[85, 3] ty #[.slice none 0 0, .int .i64 (n : Int)]).run Tryz.prog w = .ok (.slice (some ⟨w.heap.size, 0, none⟩) n G) (w.drew.alloc (.cells R.toArray 81)) := fun ty => by
      have h := Lib.run_append_grow_zeros w 85 3 ty 81 i0 _ .i64 .i64 Tryz.underlying85 Tryz.underlying3 hi0 hz0 none 0 0 [] hold n (by omega) (by omega) (by omega) (by omega) (by rw [hzb]; omega) (by rw [hzb]; exact growslice_fits (by omega) (by omega))
      rw [Nat.zero_add, ← hG] at h
      rw [h]
      congr 4
      rw [hR]
      simp
    have hGn : n ≤ G := by rw [hG]; have := grownCap_ge w n 0 81; omega
    have hGm : G ≤ maxLen := by rw [hG]; exact grownCap_le_maxLen w _ _ _ (by unfold maxLen; omega)
    have hRl : R.length = G := by
      rw [hR, List.length_append, Array.length_toList, Array.length_toList, len_zeroP, len_zeroP]
      omega
    have H1 := heap_alloc_new w.drew (.cells R.toArray 81)
    have hs1 : Stay (fun _ => False) w (w.drew.alloc (.cells R.toArray 81)) := Stay.drew.trans (Stay.alloc _ _)
    obtain ⟨W1, hW1⟩ : ∃ W1, W1 = w.drew.alloc (.cells R.toArray 81) := ⟨_, rfl⟩
    rw [← hW1] at hrz H1 hs1
    have HCO := Lib.hid (show CO w.heap.size 81 W1 (.slice (some ⟨w.heap.size, 0, none⟩) 0 G) [] from ⟨rfl, .inr ⟨w.heap.size, G, R.toArray, rfl, Nat.le_refl _, H1, Nat.zero_le _, hGm, by simp [hRl], by simp⟩⟩)
    have HS1 := Lib.hid hs1
    have HRZ := Lib.hid hrz
    have hG63 : (G : Int) ≤ 9223372036854775807 := by unfold maxLen at hGm; omega
    have hnG : (n : Int) ≤ (G : Int) := by omega
    have hnI : (0 : Int) < (n : Int) := by omega
    have hnM : (n : Int) ≤ 1000000 := by omega
    clear hG hR hrz hRl H1 hs1 hW1 hi0 hz0 hzs hzb hold hGm hn
    go_enter Tryz.func73, Tryz.ntmps73
    go_wp2_with (at_builtin; refine Lib.wpList_append_run _ rfl _ _ _ _ rfl _ _ rfl rfl _ _ (HRZ.out _) ?_)
    go_ret
    exact ⟨_, rfl, HCO.out, HS1.out⟩

theorem flat_take {LS : List (List Nat)} {j : Nat} {ss : List Nat} (h : LS[j]? = some ss) : (LS.take (j + 1)).flatten = (LS.take j).flatten ++ ss := by
  rw [List.take_add_one, h]
  simp
theorem flat_le (LS : List (List Nat)) (j : Nat) : (LS.take j).flatten.length ≤ LS.flatten.length := by
  conv => rhs; rw [← List.take_append_drop j LS]
  rw [List.flatten_append, List.length_append]
  omega
/-- A slice of slices of pointers. -/
structure LvS (w : World) (x : Value) (LS : List (List Nat)) : Prop where
  ex : ∃ vs, CS w x vs ∧ vs.length = LS.length ∧ ∀ (i : Nat) (ss : List Nat) (u : Value), LS[i]? = some ss → vs[i]? = some u → CS w u (ptrs ss)
theorem LvS.stay0 {w w' : World} {x : Value} {LS : List (List Nat)} (h : LvS w x LS) (hs : Stay (fun _ => False) w w') : LvS w' x LS := by
  obtain ⟨vs, h1, h2, h3⟩ := h.ex
  exact ⟨vs, h1.stay0 hs, h2, fun i ss u a b => (h3 i ss u a b).stay0 hs⟩
theorem LvS.form {w : World} {x : Value} {LS : List (List Nat)} (h : LvS w x LS) : ∃ a c, x = .slice a LS.length c := by
  obtain ⟨vs, h1, h2, h3⟩ := h.ex
  rw [← h2]
  exact h1.form
theorem LvS.at {w : World} {a0 : Option Addr} {n c : Nat} {LS : List (List Nat)} (h : LvS w (.slice a0 n c) LS) {j : Nat} {ss : List Nat} (hj : LS[j]? = some ss) : ∃ g o u, a0 = some ⟨g, o, none⟩ ∧ w.cell? ⟨g, o + j, none⟩ = some u ∧ CS w u (ptrs ss) := by
  obtain ⟨vs, h1, h2, h3⟩ := h.ex
  have hl := (List.getElem?_eq_some_iff.1 hj).1
  obtain ⟨g, o, rfl, _, hc⟩ := h1.at (by omega)
  obtain ⟨u, hu⟩ : ∃ u, vs[j]? = some u := ⟨_, List.getElem?_eq_getElem (by omega)⟩
  exact ⟨g, o, u, rfl, hc j u hu, h3 j ss u hj hu⟩
theorem LvAt.lvs {B : Nat → Prop} {w : World} {v : Value} {vs : List Value} {LS : List (List Nat)} (h : LvAt B w v vs LS) : LvS w v LS := ⟨vs, h.out.cs, h.len, fun i ss u a b => (h.row i ss u a b).cs⟩
set_option maxHeartbeats 1000000 in
theorem concat_any (w : World) (x : Value) (LS : List (List Nat)) (hx : LvS w x LS) (hn : LS.length ≤ 100000) (ht : LS.flatten.length ≤ 100000) :
    Calls Tryz.prog 38 #[x] w fun e w' => ∃ v, e = .returned v ∧ CO w.heap.size 81 w' v (ptrs LS.flatten) ∧ Stay (fun _ => False) w w' := by
  have HX := Lib.hid hx
  obtain ⟨a0, c, rfl⟩ := hx.form
  have hnI : (LS.length : Int) ≤ 100000 := by omega
  have HT := Lib.hid ht
  have HFL := Lib.hid (flat_le LS)
  clear hx hn ht
  go_enter Tryz.func38, Tryz.ntmps38
  go_wp2
  go_loopw [3, 11] (fun n i wr => ∃ j m : Nat, i = .int .i64 (j : Int) ∧ n = .int .i64 (m : Int) ∧ j ≤ LS.length ∧ Hid (m = (LS.take j).flatten.length) ∧ w = wr) (fun _ i _ => LS.length - (intOf i).toNat)
  case atStart => exact ⟨0, 0, rfl, rfl, Nat.zero_le _, Lib.hid (by simp), rfl⟩
  case round =>
    obtain ⟨j, m, rfl, rfl, hj, HM, rfl⟩ := hrel
    have hm1 : m ≤ 100000 := by have := HM.out; have := HFL.out j; have := HT.out; omega
    have hm2 : (m : Int) ≤ 100000 := by omega
    by_cases hlt : j < LS.length
    · obtain ⟨ss, hss⟩ : ∃ ss, LS[j]? = some ss := ⟨_, List.getElem?_eq_getElem hlt⟩
      obtain ⟨g, o, u, rfl, cu, hu⟩ := HX.out.at hss
      obtain ⟨a1, c1, rfl⟩ := hu.form
      have HSS := Lib.hid (flat_take hss)
      obtain ⟨k, hk⟩ : ∃ k, k = (ptrs ss).length := ⟨_, rfl⟩
      rw [← hk] at cu
      have HK := Lib.hid (show m + k = (LS.take (j + 1)).flatten.length by rw [HSS.out, List.length_append, hk, len_ptrs, HM.out])
      have hk2 : ¬ ((m : Int) + (k : Int) < 0) := by omega
      have hk3 : (k : Int) ≤ 100000 := by have := HK.out; have := HFL.out (j + 1); have := HT.out; omega
      clear hu hss hk hm1
      go_wp2
      refine ⟨⟨j + 1, m + k, by go_num, by go_num, hlt, HK, trivial⟩, by simp [intOf]; omega⟩
    · obtain rfl : j = LS.length := by omega
      have HG := Lib.hid (grow_any w m (by omega))
      clear hlt hj hm1 hm2
      go_wp2_with fail
      refine HG.out.mono ?_
      rintro e w1 ⟨v1, rfl, ho1, hs1⟩
      have HO1 := Lib.hid ho1
      have HS1 := Lib.hid hs1
      clear ho1 hs1
      go_wp2
      go_loopw [6, 27] (fun v i wr => ∃ j : Nat, i = .int .i64 (j : Int) ∧ j ≤ LS.length ∧ Hid (CO w.heap.size 81 wr v (ptrs (LS.take j).flatten)) ∧ Hid (Stay (fun _ => False) w wr)) (fun _ i _ => LS.length - (intOf i).toNat)
      case atStart => exact ⟨0, rfl, Nat.zero_le _, Lib.hid (by simpa [ptrs] using HO1.out), HS1⟩
      case round =>
        obtain ⟨j, rfl, hj, HV, HS⟩ := hrel
        by_cases hlt : j < LS.length
        · obtain ⟨ss, hss⟩ : ∃ ss, LS[j]? = some ss := ⟨_, List.getElem?_eq_getElem hlt⟩
          obtain ⟨g, o, u, rfl, cu, hu⟩ := (HX.out.stay0 HS.out).at hss
          have HU := Lib.hid hu
          obtain ⟨a1, c1, rfl⟩ := hu.form
          have HSS := Lib.hid (show ptrs (LS.take (j + 1)).flatten = ptrs (LS.take j).flatten ++ ptrs ss by rw [flat_take hss, ptrs_append])
          have HLN := Lib.hid (show (ptrs (LS.take j).flatten).length + (ptrs ss).length ≤ 1000000 by
            have h1 := HFL.out (j + 1)
            rw [flat_take hss, List.length_append] at h1
            rw [len_ptrs, len_ptrs]
            have := HT.out
            omega)
          obtain ⟨P, hP⟩ : ∃ P, P = ptrs (LS.take j).flatten := ⟨_, rfl⟩
          rw [← hP] at HV HSS HLN
          obtain ⟨va, vc, rfl⟩ := HV.out.form
          clear hu hss hP
          go_wp2_with (at_builtin; refine wpList_append_co rfl (.tmp 31) (.tmp 32) 85 rfl _ 8 Tryz.underlying85 info_sh rfl (by decide) rfl rfl HV.out HU.out (one_ptrs ss) HLN.out HS.out.size ?_; intro v4 w4 ho4 hs4 hb4; have HO4 := Lib.hid ho4; have HS4 := Lib.hid (show Stay (fun _ => False) w w4 from stay_seal (X := fun k => w.heap.size ≤ k) ((HS.out.mono (fun _ x => x.elim)).trans (hs4.mono (fun k hk => (HV.out.lt k hk).1))) (fun k hk => hk)); clear ho4 hs4 hb4)
          refine ⟨⟨j + 1, by go_num, hlt, Lib.hid (by rw [HSS.out]; exact HO4.out), HS4⟩, by simp [intOf]; omega⟩
        · obtain rfl : j = LS.length := by omega
          go_wp2
          go_ret
          exact ⟨_, rfl, by have h := HV.out; rwa [List.take_length] at h, HS.out⟩
end Go.Proofs.YtljlfdhjolcnaaaGreat.Ix

/-
  index: what an index or a view has, as a stack: entries ahead of tables.
-/
namespace Go.Proofs.YtljlfdhjolcnaaaGreat.Ix
open Go.RowKit Go.Maps Me Mg
open Pk (Owns Slc)
set_option maxRecDepth 100000
set_option linter.unusedVariables false

/-- A shared table that is read. -/
def ShR (G : Prop) (W : World) (q : Sh) : Prop := ∃ t, W.cell? ⟨q.s, 0, none⟩ = some (ptrV t) ∧ ∀ W', Stay (fun _ => False) W W' → TabOk W' t q.C ∧ (G → TabGet W' t q.L)
theorem ShR.stay0 {G : Prop} {W W' : World} {q : Sh} (h : ShR G W q) (hs : Stay (fun _ => False) W W') : ShR G W' q := by
  obtain ⟨t, h1, h2⟩ := h
  exact ⟨t, hs.cell h1 (fun x => x), fun W2 h3 => h2 W2 (hs.trans h3)⟩
theorem ShAt.r {G : Prop} {B F : Nat → Prop} {w : World} {x n : Nat} {q : Sh} (h : ShAt G B F w x n q) : ShR G w q := by
  obtain ⟨t, bv, h1, h2, _⟩ := h
  refine ⟨t, by rw [cell_of_row w q.s 0 _ _ _ h1]; rfl, fun W hW => ?_⟩
  obtain ⟨k1, k2, _⟩ := h2 W (hW.mono (fun _ x => x.elim))
  exact ⟨k1, k2⟩
/-- A stack in memory: its two values; entries ahead of tables. -/
structure Stk (G : Prop) (W : World) (av tv : Value) (A : List En) (Q : List Sh) : Prop where
  mr : MR W av A
  srt : Sorted A
  nrm : Nrm A
  ps : CS W tv (ptrs (Q.map (·.s)))
  sh : ∀ q ∈ Q, ShR G W q
  ok : ∀ q ∈ Q, q.Ok
theorem Stk.stay0 {G : Prop} {W W' : World} {av tv : Value} {A : List En} {Q : List Sh} (h : Stk G W av tv A Q) (hs : Stay (fun _ => False) W W') : Stk G W' av tv A Q :=
  ⟨h.mr.stay0 hs, h.srt, h.nrm, h.ps.stay0 hs, fun q hq => (h.sh q hq).stay0 hs, h.ok⟩
theorem Stk.nil (G : Prop) (W : World) : Stk G W (.pointer none) (.slice none 0 0) [] [] := ⟨MR.nil W, sorted_nil, (fun e he => by cases he), CS.nil W, (fun q hq => by cases hq), (fun q hq => by cases hq)⟩
theorem lvs_flat (LS : List (List Sh)) : (lvs LS).flatten = LS.flatten.map (·.s) := by
  unfold lvs
  rw [List.map_flatten]

theorem all_nil (w : World) : Calls Tryz.prog 42 #[.pointer none] w fun e w' => e = .returned (.agg #[.pointer none, .slice none 0 0]) ∧ Stay (fun _ => False) w w' := by
  have HA := Lib.hid (show Stay (fun _ => False) w (w.alloc (.cells #[.pointer none, .slice none 0 0] 98)) from Stay.alloc _ _)
  go_enter Tryz.func42, Tryz.ntmps42
  go_wp2
  refine bodyPost_ret (v := .agg #[.pointer none, .slice none 0 0]) (by simp [results, Tryz.results42, go_sem]) rfl ⟨rfl, HA.out⟩
theorem size_st : (Tryz.prog.info? 98).map (·.size) = some 2 := by kernel_rfl
/-- A box that holds a stack. -/
def SBox (w : World) (r : Nat) (a b : Value) : Prop := w.heap[r]? = some (.cells #[a, b] 98 (0, 0))
theorem SBox.stay {X : Nat → Prop} {w w' : World} {r : Nat} {a b : Value} (h : SBox w r a b) (hs : Stay X w w') (hx : ¬ X r) : SBox w' r a b := (hs.block r (Array.getElem?_eq_some_iff.1 h).1 hx).trans h
theorem SBox.stay0 {w w' : World} {r : Nat} {a b : Value} (h : SBox w r a b) (hs : Stay (fun _ => False) w w') : SBox w' r a b := h.stay hs (fun x => x)
theorem SBox.c0 {w : World} {r : Nat} {a b : Value} (h : SBox w r a b) : w.cell? ⟨r, 0, none⟩ = some a := by rw [cell_of_row w r 0 _ _ _ h]; rfl
theorem SBox.c1 {w : World} {r : Nat} {a b : Value} (h : SBox w r a b) : w.cell? ⟨r, 1, none⟩ = some b := by rw [cell_of_row w r 1 _ _ _ h]; rfl
theorem SBox.set {w : World} {r : Nat} {a b : Value} (h : SBox w r a b) (a' b' : Value) : SBox ((w.setCell ⟨r, 0, none⟩ a').setCell ⟨r, 1, none⟩ b') r a' b' := by
  have h1 := heap_setCell_same w r 0 _ _ a' h
  have h2 := heap_setCell_same _ r 1 _ _ b' h1
  unfold SBox
  rw [h2]
  rfl
theorem SBox.lt {w : World} {r : Nat} {a b : Value} (h : SBox w r a b) : r < w.heap.size := (Array.getElem?_eq_some_iff.1 h).1
theorem stay_set2 {X : Nat → Prop} (w : World) (r i j : Nat) (a b : Value) (hx : X r) : Stay X w ((w.setCell ⟨r, i, none⟩ a).setCell ⟨r, j, none⟩ b) := (Stay.setCell w ⟨r, i, none⟩ a hx).trans (Stay.setCell _ ⟨r, j, none⟩ b hx)
theorem SBox.load {w : World} {r : Nat} {a b : Value} (h : SBox w r a b) : (loadVar 98 ⟨r, 0, none⟩).run Tryz.prog w = .ok (.agg #[a, b]) w :=
  run_loadVar_at w ⟨r, 0, none⟩ 98 [a, b] _ Tryz.underlying98 rfl size_st (fun j v hv => by
    rw [add_at, Nat.zero_add]
    match j, hv with
    | 0, hv => cases hv; exact h.c0
    | 1, hv => cases hv; exact h.c1)
set_option maxHeartbeats 1000000 in
theorem all_ix {A : Nat → Prop} (w : World) (x : Nat) (I : Im) (h : IxAt A w x I) (hn : I.LS.length ≤ 100000) (ht : I.LS.flatten.length ≤ 100000) :
    Calls Tryz.prog 42 #[.pointer (some ⟨x, 0, none⟩)] w fun e w' => ∃ av tv, e = .returned (.agg #[av, tv]) ∧ Stk I.g w' av tv I.A I.LS.flatten ∧ CO w.heap.size 81 w' tv (ptrs (I.LS.flatten.map (·.s))) ∧ Stay (fun _ => False) w w' := by
  obtain ⟨B, F, a, v, vs, hB, hF, hl, h1, h2⟩ := h.ex
  have c4 : w.cell? ⟨x, 4, none⟩ = some (ptrV a) := h1.c rfl
  have c5 : w.cell? ⟨x, 5, none⟩ = some v := h1.c rfl
  unfold ptrV at c4
  have HCO := Lib.hid (fun W (hW : Stay (fun _ => False) w W) => concat_any W v (lvs I.LS) (h1.lv.lvs.stay0 hW) (by unfold lvs; simpa using hn) (by rw [lvs_flat, List.length_map]; exact ht))
  have HST := Lib.hid (fun W (hW : Stay (fun _ => False) w W) tv (hc : CS W tv (ptrs (I.LS.flatten.map (·.s)))) => (show Stk I.g W (ptrV a) tv I.A I.LS.flatten from ⟨(h2.stay0 hW).mr, h2.srt, h.nrm, hc, fun q hq => by
    obtain ⟨l, hl, hq⟩ := List.mem_flatten.1 hq
    exact (h1.sh q (h1.sub l hl q hq)).r.stay0 hW, fun q hq => by
    obtain ⟨l, hl, hq⟩ := List.mem_flatten.1 hq
    exact h1.ok q (h1.sub l hl q hq)⟩))
  rw [lvs_flat] at HCO
  obtain ⟨va, vn, vc, rfl⟩ : ∃ va vn vc, v = .slice va vn vc := by obtain ⟨p, q, e⟩ := h1.lv.out.form; exact ⟨p, _, q, e⟩
  clear h h1 h2 hB hF hl hn ht
  go_enter Tryz.func42, Tryz.ntmps42
  go_wp2
  have hs0 : Stay (fun _ => False) w (w.alloc (.cells #[.pointer none, .slice none 0 0] 98)) := Stay.alloc _ _
  have hb0 : SBox (w.alloc (.cells #[.pointer none, .slice none 0 0] 98)) w.heap.size (.pointer none) (.slice none 0 0) := heap_alloc_new w _
  obtain ⟨w0, hw0⟩ : ∃ w0, w.alloc (.cells #[.pointer none, .slice none 0 0] 98) = w0 := ⟨_, rfl⟩
  rw [hw0] at hs0 hb0 ⊢
  obtain ⟨r, hr⟩ : ∃ r, r = w.heap.size := ⟨_, rfl⟩
  rw [← hr] at hb0 ⊢
  have HB0 := Lib.hid hb0
  have HS0 := Lib.hid hs0
  have HR := Lib.hid hr
  have d4 := hs0.cell c4 (fun x => x)
  have d5 := hs0.cell c5 (fun x => x)
  clear hw0 hs0 hb0 hr c4 c5
  go_region_law ((refine step_call rfl 38 #[.tmp 13] #[69] rfl #[.slice va vn vc] (by simp [Act.eval]) (by kernel_rfl) ((HCO.out _ (HS0.out.trans Stay.drew)).mono ?_); rintro e w2 ⟨v2, rfl, ho2, hs2⟩; obtain ⟨u2, n2, m2, rfl⟩ : ∃ a n c, v2 = .slice a n c := (by obtain ⟨p, q, e⟩ := ho2.form; exact ⟨p, _, q, e⟩); refine ⟨_, rfl, ?_⟩; have HO2 := Lib.hid ho2; have HS2 := Lib.hid (Stay.drew.trans hs2); have e4 := HS2.out.cell d4 (fun x => x); have HB2 := Lib.hid (HB0.out.stay0 HS2.out); have r0 := HB2.out.c0; have r1 := HB2.out.c1; have f0 := frozen_of_row _ r 0 _ _ HB2.out; have f1 := frozen_of_row _ r 1 _ _ HB2.out; clear ho2 hs2))
  all_goals
    have hb3 := HB2.out.set (.pointer (some ⟨a, 0, none⟩)) (.slice u2 n2 m2)
    have hs3 := stay_set2 (X := (· = r)) w2 r 0 1 (.pointer (some ⟨a, 0, none⟩)) (.slice u2 n2 m2) rfl
    generalize (w2.setCell ⟨r, 0, none⟩ (.pointer (some ⟨a, 0, none⟩))).setCell ⟨r, 1, none⟩ (.slice u2 n2 m2) = w3 at *
    have hz := HS0.out.size
    have HO3 := Lib.hid (HO2.out.stay hs3 (fun k hk e => by have h1 := (HO2.out.lt k hk).1; have h2 := HB0.out.lt; have h3 : w0.drew.heap.size = w0.heap.size := rfl; omega))
    have HS3 := Lib.hid (show Stay (fun _ => False) w w3 from stay_seal (((HS0.out.trans HS2.out).mono (Y := (· = r)) (fun _ x => x.elim)).trans hs3) (fun k hk => by have := HR.out; omega))
    have hld := hb3.load
    clear hb3 hs3 r0 r1 f0 f1 e4
    go_wp2
    refine bodyPost_ret (v := .agg #[.pointer (some ⟨a, 0, none⟩), .slice u2 n2 m2]) (by simp [results, Tryz.results42, asAddr, hld]) rfl ⟨_, _, rfl, HST.out _ HS3.out _ HO3.out.cs, HO3.out.rebase (fun k hk => ?_), HS3.out⟩
    have h1 := (HO3.out.lt k hk).1
    have h2 : w0.drew.heap.size = w0.heap.size := rfl
    omega
end Go.Proofs.YtljlfdhjolcnaaaGreat.Ix

/-
  index: a key's entry, of a table, of a stack; Get.
-/
namespace Go.Proofs.YtljlfdhjolcnaaaGreat.Ix
open Go.RowKit Go.Maps Me Mg
open Pk (Owns Slc)
set_option maxRecDepth 100000
set_option linter.unusedVariables false

set_option maxHeartbeats 1200000 in
theorem get_sh {G : Prop} (w : World) (q : Sh) (k : List UInt8) (h : ShR G w q) (hg : G) (hk : k.length ≤ 140737488351232) :
    Calls Tryz.prog 96 #[.pointer (some ⟨q.s, 0, none⟩), .string ⟨k.toArray⟩] w fun e w' => e = .returned (.tuple #[enV (entOf (getL q.L k)), .bool (getL q.L k).isSome]) ∧ Stay (fun _ => False) w w' := by
  obtain ⟨t, ht, hh⟩ := h
  have hb0 := Box.new w ⟨[], [], false⟩
  have hs0 : Stay (fun _ => False) w (w.alloc (.cells (enC ⟨[], [], false⟩).toArray 42)) := Stay.alloc _ _
  obtain ⟨w0, hw0⟩ : ∃ w0, w.alloc (.cells (enC ⟨[], [], false⟩).toArray 42) = w0 := ⟨_, rfl⟩
  rw [hw0] at hb0 hs0
  obtain ⟨b, hb⟩ : ∃ b, b = w.heap.size := ⟨_, rfl⟩
  rw [← hb] at hb0
  have W0 := Lib.hid hw0
  have HBE := Lib.hid hb
  have HB0 := Lib.hid hb0
  have HS0 := Lib.hid hs0
  have d0 := hs0.cell ht (fun x => x)
  unfold ptrV at d0
  have HG := Lib.hid ((hh w0 hs0).2 hg k hk)
  unfold ptrV at HG
  obtain ⟨r, hr⟩ : ∃ r, r = entOf (getL q.L k) := ⟨_, rfl⟩
  obtain ⟨r2, hr2⟩ : ∃ r2, r2 = (getL q.L k).isSome := ⟨_, rfl⟩
  rw [← hr, ← hr2] at HG ⊢
  clear hw0 hb hb0 hs0 ht hh hr hr2
  generalize q.s = s at *
  go_enter Tryz.func96, Tryz.ntmps96
  go_wp2_with (with_reducible refine alloc_en rfl rfl ?_; rw [W0.out, ← HBE.out])
  refine HG.out.mono ?_
  rintro e w1 ⟨rfl, hs1⟩
  have HB1 := Lib.hid (HB0.out.stay0 hs1)
  have HBN := Lib.hid (Box.new w1 ⟨[], [], false⟩)
  have HA := Lib.hid (show Stay (fun _ => False) w1 (w1.alloc (.cells (enC ⟨[], [], false⟩).toArray 42)) from Stay.alloc _ _)
  have HZ := Lib.hid (show b < w1.heap.size from HB1.out.lt)
  obtain ⟨w2, hw2⟩ : ∃ w2, w1.alloc (.cells (enC ⟨[], [], false⟩).toArray 42) = w2 := ⟨_, rfl⟩
  rw [hw2] at HBN HA
  have W2 := Lib.hid hw2
  have HS1 := Lib.hid (HS0.out.trans hs1)
  clear hs1 hw2 d0 HG
  go_wp2_with (first
    | (with_reducible refine alloc_en rfl rfl ?_; rw [W2.out])
    | (refine Box.store HBN.out rfl (.tmp 6) (.tmp 16) rfl rfl r rfl ?_
       intro w3 hb3 hs3
       have H3 := Lib.hid hb3
       have HB3 := Lib.hid ((HB1.out.stay0 HA.out).stay hs3 (fun e => by have h1 : b = w1.heap.size := e; have := HZ.out; omega))
       have HS3 := Lib.hid (show Stay (fun _ => False) w w3 from stay_seal ((((HS1.out.trans HA.out).mono (Y := (· = w1.heap.size)) (fun _ x => x.elim))).trans hs3) (fun k hk => by have h1 : k = w1.heap.size := hk; have := HS1.out.size; omega))
       clear hb3 hs3)
    | (refine wpList_load_run (by rfl) 42 (.tmp 6) rfl ⟨w1.heap.size, 0, none⟩ rfl _ H3.out.run_load ?_)
    | (refine Box.store HB3.out rfl (.tmp 4) (.tmp 19) rfl rfl r rfl ?_
       intro w4 hb4 hs4
       have H4 := Lib.hid hb4
       have HS4 := Lib.hid (stay_seal ((HS3.out.mono (Y := (· = b)) (fun _ x => x.elim)).trans hs4) (fun k hk => by have h1 : k = b := hk; have := HBE.out; omega))
       clear hb4 hs4))
  have hld := H4.out.run_load
  refine bodyPost_ret (v := .tuple #[enV r, .bool r2]) (by simp [results, Tryz.results96, asAddr, hld]) rfl ⟨rfl, HS4.out⟩

/-- What a stack has. -/
def listsS (A : List En) (Q : List Sh) : List (List En) := A :: Q.map Sh.L
theorem lists_take (A : List En) {Q : List Sh} {j : Nat} {q : Sh} (h : Q[j]? = some q) : listsS A (Q.take (j + 1)) = listsS A (Q.take j) ++ [q.L] := by
  unfold listsS
  rw [List.take_add_one, h]
  simp
theorem look_one (L : List En) (k : List UInt8) : look [L] k = getL L k := by simp [look]
theorem look_stop {A : List En} {Q : List Sh} {k : List UInt8} (j : Nat) (h : (look (listsS A (Q.take j)) k).isSome = true) : look (listsS A Q) k = look (listsS A (Q.take j)) k := by
  have e : listsS A Q = listsS A (Q.take j) ++ (Q.drop j).map Sh.L := by
    unfold listsS
    rw [List.cons_append, ← List.map_append, List.take_append_drop]
  rw [e, look_append]
  cases h2 : look (listsS A (Q.take j)) k with
  | none => rw [h2] at h; cases h
  | some e => rfl
theorem look_next {A : List En} {Q : List Sh} {k : List UInt8} {j : Nat} {q : Sh} (hq : Q[j]? = some q) (h : (look (listsS A (Q.take j)) k).isSome = false) : look (listsS A (Q.take (j + 1))) k = getL q.L k := by
  rw [lists_take A hq, look_append, look_one]
  cases h2 : look (listsS A (Q.take j)) k with
  | none => rfl
  | some e => rw [h2] at h; cases h
set_option maxHeartbeats 1200000 in
theorem get_st {G : Prop} (w : World) (av tv : Value) (A : List En) (Q : List Sh) (k : List UInt8) (h : Stk G w av tv A Q) (hg : G) (hk : k.length ≤ 140737488351232) (hA : A.length ≤ 1000000) (hQ : Q.length ≤ 100000) :
    Calls Tryz.prog 63 #[.agg #[av, tv], .string ⟨k.toArray⟩] w fun e w' => e = .returned (.tuple #[strV (tellV (look (listsS A Q) k)).1, .bool (tellV (look (listsS A Q) k)).2]) ∧ Stay (fun _ => False) w w' := by
  have HH := Lib.hid h
  obtain ⟨p0, rfl⟩ := h.mr.ptr
  obtain ⟨ta, tc, rfl⟩ := h.ps.form
  have hl : (ptrs (Q.map (·.s))).length = Q.length := by rw [len_ptrs, List.length_map]
  rw [hl] at HH ⊢
  have hb0 : SBox (w.alloc (.cells #[.pointer p0, .slice ta Q.length tc] 98)) w.heap.size (.pointer p0) (.slice ta Q.length tc) := heap_alloc_new w _
  have hs0 : Stay (fun _ => False) w (w.alloc (.cells #[.pointer p0, .slice ta Q.length tc] 98)) := Stay.alloc _ _
  obtain ⟨w0, hw0⟩ : ∃ w0, w.alloc (.cells #[.pointer p0, .slice ta Q.length tc] 98) = w0 := ⟨_, rfl⟩
  rw [hw0] at hb0 hs0
  obtain ⟨r, hr⟩ : ∃ r, r = w.heap.size := ⟨_, rfl⟩
  rw [← hr] at hb0
  have W0 := Lib.hid hw0
  have HR := Lib.hid hr
  have HB0 := Lib.hid hb0
  have HS0 := Lib.hid hs0
  have HGM := Lib.hid (Me.get_any w0 (.pointer p0) A k (h.mr.stay0 hs0) h.srt hA)
  have HKK := Lib.hid hk
  have HQL := Lib.hid hQ
  have HGG := Lib.hid hg
  have r0 := hb0.c0
  have r1 := hb0.c1
  obtain ⟨R, hR⟩ : ∃ R, R = tellV (look (listsS A Q) k) := ⟨_, rfl⟩
  rw [← hR]
  have HRR := Lib.hid hR
  have hQI : (Q.length : Int) ≤ 100000 := by omega
  clear h hw0 hb0 hs0 hr hk hA hQ hl hR hg
  go_enter Tryz.func63, Tryz.ntmps63
  go_wp2_with fail
  rw [W0.out, ← HR.out]
  refine HGM.out.mono ?_
  rintro e w1 ⟨rfl, hs1⟩
  obtain ⟨e0, he0⟩ : ∃ e0, e0 = entOf (getL A k) := ⟨_, rfl⟩
  obtain ⟨b0, hb0⟩ : ∃ b0, b0 = (getL A k).isSome := ⟨_, rfl⟩
  rw [← he0, ← hb0]
  have HE0 := Lib.hid (show e0 = entOf (look (listsS A (Q.take 0)) k) ∧ b0 = (look (listsS A (Q.take 0)) k).isSome from by
    have h1 : look (listsS A (Q.take 0)) k = getL A k := by unfold listsS; simp [look]
    rw [h1]
    exact ⟨he0, hb0⟩)
  have HB1 := Lib.hid (HB0.out.stay0 hs1)
  have HBN := Lib.hid (Box.new w1 ⟨[], [], false⟩)
  have HA := Lib.hid (show Stay (fun _ => False) w1 (w1.alloc (.cells (enC ⟨[], [], false⟩).toArray 42)) from Stay.alloc _ _)
  have HZ := Lib.hid (show r < w1.heap.size from HB1.out.lt)
  obtain ⟨w2, hw2⟩ : ∃ w2, w1.alloc (.cells (enC ⟨[], [], false⟩).toArray 42) = w2 := ⟨_, rfl⟩
  rw [hw2] at HBN HA
  have W2 := Lib.hid hw2
  have HS1 := Lib.hid (HS0.out.trans hs1)
  clear hs1 hw2 HGM r0 r1 he0 hb0
  go_wp2_with (first
    | (with_reducible refine alloc_en rfl rfl ?_; rw [W2.out])
    | (refine Box.store HBN.out rfl (.tmp 6) (.tmp 14) rfl rfl e0 rfl ?_
       intro w3 hb3 hs3
       have H3 := Lib.hid hb3
       have HB3 := Lib.hid ((HB1.out.stay0 HA.out).stay hs3 (fun e => by have h1 : r = w1.heap.size := e; have := HZ.out; omega))
       have HS3 := Lib.hid (show Stay (fun _ => False) w w3 from stay_seal ((((HS1.out.trans HA.out).mono (Y := (· = w1.heap.size)) (fun _ x => x.elim))).trans hs3) (fun k hk => by have h1 : k = w1.heap.size := hk; have := HS1.out.size; omega))
       clear hb3 hs3))
  obtain ⟨g, hgd⟩ : ∃ g, g = w1.heap.size := ⟨_, rfl⟩
  rw [← hgd] at H3 ⊢
  have HGW := Lib.hid (show w.heap.size ≤ g ∧ r < g from ⟨by rw [hgd]; exact HS1.out.size, by rw [hgd]; exact HZ.out⟩)
  clear hgd HBN W2 HA HB1 HB0
  go_loopw [7, 8] (fun t i wr => ∃ (j : Nat) (b : Bool) (e : En), i = .int .i64 (j : Int) ∧ t = .bool b ∧ j ≤ Q.length ∧ Hid (e = entOf (look (listsS A (Q.take j)) k) ∧ b = (look (listsS A (Q.take j)) k).isSome) ∧ Hid (Box wr g e) ∧ Hid (SBox wr r (.pointer p0) (.slice ta Q.length tc)) ∧ Hid (Stay (fun _ => False) w wr)) (fun _ i _ => Q.length - (intOf i).toNat)
  case atStart => exact ⟨0, b0, e0, rfl, rfl, Nat.zero_le _, HE0, H3, HB3, HS3⟩
  case round =>
    obtain ⟨j, b, e, rfl, rfl, hj, HE, HBX, HSB, HST⟩ := hrel
    have r1 := HSB.out.c1
    by_cases hgo : b = false ∧ j < Q.length
    · obtain ⟨rfl, hlt⟩ := hgo
      obtain ⟨q, hq⟩ : ∃ q, Q[j]? = some q := ⟨_, List.getElem?_eq_getElem hlt⟩
      have HST2 := Lib.hid (HH.out.stay0 HST.out)
      have hqp : (ptrs (Q.map (·.s)))[j]? = some (ptrV q.s) := at_ptrs (by simp [hq])
      obtain ⟨gt, o, rfl, _, hc⟩ := HST2.out.ps.at (by rw [len_ptrs, List.length_map]; omega)
      have cq := hc j _ hqp
      unfold ptrV at cq
      have HGET := Lib.hid (get_sh wr q k (HST2.out.sh q (List.mem_of_getElem? hq)) HGG.out HKK.out)
      have HNX := Lib.hid (look_next (k := k) (A := A) hq HE.out.2.symm)
      obtain ⟨e2, he2⟩ : ∃ e2, e2 = entOf (getL q.L k) := ⟨_, rfl⟩
      obtain ⟨b2, hb2⟩ : ∃ b2, b2 = (getL q.L k).isSome := ⟨_, rfl⟩
      rw [← he2, ← hb2] at HGET
      have HE2 := Lib.hid (show e2 = entOf (look (listsS A (Q.take (j + 1))) k) ∧ b2 = (look (listsS A (Q.take (j + 1))) k).isSome by rw [HNX.out]; exact ⟨he2, hb2⟩)
      generalize q.s = s at *
      clear hq hqp hc he2 hb2 HNX HST2
      go_wp2_with (first
        | (go_at_call 96
           refine HGET.out.mono ?_
           rintro y w5 ⟨rfl, hs5⟩
           have HB5 := Lib.hid (HBX.out.stay0 hs5)
           have HSB5 := Lib.hid (HSB.out.stay0 hs5)
           have HS5 := Lib.hid (HST.out.trans hs5)
           clear hs5)
        | (refine Box.store HB5.out rfl (.tmp 6) (.tmp 35) rfl rfl e2 rfl ?_
           intro w6 hb6 hs6
           have H6 := Lib.hid hb6
           have HSB6 := Lib.hid (HSB5.out.stay hs6 (fun e => by have h1 : r = g := e; have := HGW.out.2; omega))
           have HS6 := Lib.hid (show Stay (fun _ => False) w w6 from stay_seal ((HS5.out.mono (Y := (· = g)) (fun _ x => x.elim)).trans hs6) (fun k hk => by have h1 : k = g := hk; have := HGW.out.1; omega))
           clear hb6 hs6))
      refine ⟨⟨j + 1, b2, e2, by go_num, rfl, hlt, HE2, H6, HSB6, HS6⟩, by simp [intOf]; omega⟩
    · have HFN := Lib.hid (show e = entOf (look (listsS A Q) k) ∧ b = (look (listsS A Q) k).isSome from by
        cases b with
        | true => rw [look_stop (A := A) j HE.out.2.symm]; exact HE.out
        | false =>
          have hj2 : j = Q.length := by
            by_cases h : j < Q.length
            · exact absurd ⟨rfl, h⟩ hgo
            · omega
          have h1 := HE.out
          rw [hj2, List.take_length] at h1
          exact h1)
      have c1 := HBX.out.c (j := 1) rfl
      have c2 := HBX.out.c (j := 2) rfl
      obtain ⟨ek, ev, eg⟩ := e
      cases b with
      | true =>
        obtain ⟨eo, heo⟩ : ∃ eo, look (listsS A Q) k = some eo := by
          have h1 := HFN.out.2
          cases h2 : look (listsS A Q) k with
          | none => rw [h2] at h1; cases h1
          | some e => exact ⟨e, rfl⟩
        have hee : eo = ⟨ek, ev, eg⟩ := by
          have h1 := HFN.out.1
          rw [heo] at h1
          exact h1.symm
        cases eg with
        | true =>
          have HR2 := Lib.hid (show R = ([], false) by rw [HRR.out, heo, hee]; rfl)
          clear heo hee hgo hj
          go_wp2
          go_ret2
          exact ⟨by rw [HR2.out]; rfl, HST.out⟩
        | false =>
          have HR2 := Lib.hid (show R = (ev, true) by rw [HRR.out, heo, hee]; rfl)
          clear heo hee hgo hj
          go_wp2
          go_ret2
          exact ⟨by rw [HR2.out]; rfl, HST.out⟩
      | false =>
        have hj2 : j = Q.length := by
          by_cases h : j < Q.length
          · exact absurd ⟨rfl, h⟩ hgo
          · omega
        have HR2 := Lib.hid (show R = ([], false) by
          have h1 := HFN.out.2
          rw [HRR.out]
          cases h2 : look (listsS A Q) k with
          | none => rfl
          | some e => rw [h2] at h1; cases h1)
        subst hj2
        clear hgo hj
        go_wp2
        go_ret2
        exact ⟨by rw [HR2.out]; rfl, HST.out⟩

/-- Sizes that an index has. -/
structure Sz (I : Im) : Prop where
  a : I.A.length ≤ 100000
  l : I.LS.length ≤ 100000
  t : I.LS.flatten.length ≤ 100000
/-- What an index has. -/
def Im.lists (I : Im) : List (List En) := listsS I.A I.LS.flatten
set_option maxHeartbeats 1200000 in
theorem get_ix {A : Nat → Prop} (w : World) (x : Nat) (I : Im) (k : List UInt8) (h : IxAt A w x I) (hz : Sz I) (hg : I.g) (hk : k.length ≤ 140737488351232) :
    Calls Tryz.prog 29 #[.pointer (some ⟨x, 0, none⟩), .string ⟨k.toArray⟩] w fun e w' => e = .returned (.tuple #[strV (tellV (look I.lists k)).1, .bool (tellV (look I.lists k)).2]) ∧ Stay (fun _ => False) w w' := by
  have HAL := Lib.hid (all_ix w x I h hz.l hz.t)
  have HG := Lib.hid (fun W av tv (hs : Stk I.g W av tv I.A I.LS.flatten) => get_st W av tv I.A I.LS.flatten k hs hg hk (Nat.le_trans hz.a (by decide)) hz.t)
  obtain ⟨R, hR⟩ : ∃ R, R = tellV (look I.lists k) := ⟨_, rfl⟩
  rw [show tellV (look (listsS I.A I.LS.flatten) k) = R from hR.symm] at HG
  rw [← hR]
  clear h hz hg hk hR
  go_enter Tryz.func29, Tryz.ntmps29
  go_wp2_with fail
  refine HAL.out.mono ?_
  rintro e w1 ⟨av, tv, rfl, hst, hco, hs1⟩
  have HST := Lib.hid hst
  have HS1 := Lib.hid hs1
  clear hst hco hs1 HAL
  go_wp2_with fail
  refine (HG.out _ _ _ HST.out).mono ?_
  rintro e w2 ⟨rfl, hs2⟩
  have HS2 := Lib.hid (HS1.out.trans hs2)
  clear hs2
  go_wp2
  go_ret2
  exact ⟨rfl, HS2.out⟩
end Go.Proofs.YtljlfdhjolcnaaaGreat.Ix

/-
  index: a table's part; where to begin in it, by halving; its entries of a range.
-/
namespace Go.Proofs.YtljlfdhjolcnaaaGreat.Ix
open Go.RowKit Go.Maps Me Mg
open Pk (Owns Slc)
open Tb (From)
set_option maxRecDepth 100000
set_option linter.unusedVariables false

set_option maxHeartbeats 1200000 in
theorem part_sh {G : Prop} (w : World) (q : Sh) (i : Nat) (c : List En) (h : ShR G w q) (hc : q.C[i]? = some c) :
    Calls Tryz.prog 116 #[.pointer (some ⟨q.s, 0, none⟩), .int .i64 (i : Int)] w fun e w' => ∃ v, e = .returned v ∧ EnO w.heap.size w' v c ∧ Stay (fun _ => False) w w' := by
  obtain ⟨t, ht, hh⟩ := h
  have HP := Lib.hid ((hh w (Stay.refl _ _)).1.part i c hc)
  unfold ptrV at HP ht
  clear hh hc
  generalize q.s = s at *
  go_enter Tryz.func116, Tryz.ntmps116
  go_wp2_with fail
  refine HP.out.mono ?_
  rintro e w1 ⟨⟨v, rfl, ho⟩, hs⟩
  have HO := Lib.hid ho
  have HS := Lib.hid hs
  clear ho hs
  go_wp2
  go_ret
  exact ⟨_, rfl, HO.out, HS.out⟩

/-- Whether a part begins behind a key. -/
def above (C : List (List En)) (k : List UInt8) (i : Nat) : Bool := match C[i]? with
  | some (e :: _) => ltB k e.k
  | _ => false
set_option maxHeartbeats 1200000 in
theorem above_any {G : Prop} (w : World) (b1 b2 : Nat) (q : Sh) (k : List UInt8) (i : Nat) (h : ShR G w q) (h1 : w.cell? ⟨b1, 0, none⟩ = some (.pointer (some ⟨q.s, 0, none⟩))) (h2 : w.cell? ⟨b2, 0, none⟩ = some (.string ⟨k.toArray⟩)) (hi : i < q.C.length) (hne : ∀ c ∈ q.C, c ≠ []) :
    Calls Tryz.prog 115 #[.int .i64 (i : Int), .pointer (some ⟨b1, 0, none⟩), .pointer (some ⟨b2, 0, none⟩)] w fun e w' => e = .returned (.bool (above q.C k i)) ∧ Stay (fun _ => False) w w' := by
  obtain ⟨c, hc⟩ : ∃ c, q.C[i]? = some c := ⟨_, List.getElem?_eq_getElem hi⟩
  obtain ⟨e, r, rfl⟩ := List.exists_cons_of_ne_nil (hne c (List.mem_of_getElem? hc))
  have ha : above q.C k i = ltB k e.k := by unfold above; rw [hc]
  rw [ha, ← Tb.gtr_is]
  have HP := Lib.hid (fun W (hW : Stay (fun _ => False) w W) => part_sh W q i (e :: r) (h.stay0 hW) hc)
  obtain ⟨n, hn⟩ : ∃ n, n = r.length := ⟨_, rfl⟩
  clear h hi hne hc ha
  generalize q.s = s at *
  go_enter Tryz.func115, Tryz.ntmps115
  go_wp2
  go_region_law ((refine step_call rfl 116 #[.tmp 5, .tmp 6] #[81, 3] rfl #[.pointer (some ⟨s, 0, none⟩), .int .i64 (i : Int)] (by simp [Act.eval]) (by kernel_rfl) ((HP.out _ Stay.drew).mono ?_); rintro y w2 ⟨v2, rfl, ho2, hs2⟩; obtain ⟨a2, m2, rfl⟩ := ho2.form; obtain ⟨g2, o2, rfl, _, hcs⟩ := ho2.ens.at (by simp); refine ⟨_, rfl, ?_⟩; have k0 := (hcs 0 e rfl).1; have HS2 := Lib.hid (Stay.drew.trans hs2); have e2 := HS2.out.cell h2 (fun x => x); rw [List.length_cons, ← hn]; rw [Nat.zero_mul, Nat.add_zero] at k0; clear ho2 hs2 hcs))
  all_goals
    go_wp2
    refine bodyPost_ret (v := .bool (!Op.bytesLess e.k k && !e.k == k)) (by simp [results, Tryz.results115, Act.put]) rfl ⟨rfl, HS2.out⟩

set_option maxHeartbeats 4000000 in
theorem search_part (n : Nat) (f : Nat → Bool) (p1 p2 : Value) (w : World) (hn : n ≤ 1000000) (hm : ∀ i j, i ≤ j → j < n → f i = true → f j = true)
    (hc : ∀ W, Stay (fun _ => False) w W → ∀ i : Nat, i < n → Calls Tryz.prog 115 #[.int .i64 (i : Int), p1, p2] W fun e w' => e = .returned (.bool (f i)) ∧ Stay (fun _ => False) W w') :
    Calls Tryz.prog 113 #[.int .i64 (n : Int), .func (.func 115) #[] #[p1, p2]] w fun e w' => (∃ j : Nat, e = .returned (.int .i64 (j : Int)) ∧ From n f j) ∧ Stay (fun _ => False) w w' := by
  have HC := Lib.hid hc
  have HM := Lib.hid hm
  have hcm : (n : Int) ≤ 1000000 := by omega
  clear hc hm hn
  go_enter Tryz.func113, Tryz.ntmps113
  go_wp2
  go_loopw [5, 6] (fun i j wr => ∃ lo hi : Nat, i = .int .i64 (lo : Int) ∧ j = .int .i64 (hi : Int) ∧ lo ≤ hi ∧ hi ≤ n ∧ Hid (∀ t, t < lo → f t = false) ∧ Hid (∀ t, hi ≤ t → t < n → f t = true) ∧ Stay (fun _ => False) w wr) (fun i j _ => (intOf j).toNat - (intOf i).toNat)
  case atStart => exact ⟨0, n, rfl, rfl, Nat.zero_le _, Nat.le_refl _, Lib.hid (fun t ht => by omega), Lib.hid (fun t h1 h2 => by omega), Stay.refl _ _⟩
  case round =>
    obtain ⟨lo, hi, rfl, rfl, hle, hlen, hlo, hhi, hst⟩ := hrel
    have HT := Lib.hid hst
    clear hst
    by_cases hlt : lo < hi
    · have HCC := Lib.hid (HC.out wr HT.out ((lo + hi) / 2) (by omega))
      obtain ⟨b, hb⟩ : ∃ b, f ((lo + hi) / 2) = b := ⟨_, rfl⟩
      rw [hb] at HCC
      have HB := Lib.hid hb
      clear hb
      go_wp2_with fail
      refine HCC.out.mono ?_
      rintro e w2 ⟨rfl, s2⟩
      have HT2 := Lib.hid (HT.out.trans s2)
      clear s2
      cases b with
      | true =>
        have H2 := Lib.hid (show ∀ t, (lo + hi) / 2 ≤ t → t < n → f t = true from fun t h1 h2 => HM.out _ t h1 h2 HB.out)
        go_wp2
        refine ⟨⟨lo, (lo + hi) / 2, rfl, rfl, by omega, by omega, hlo, H2, HT2.out⟩, by simp [intOf]; omega⟩
      | false =>
        have H2 := Lib.hid (show ∀ t, t < (lo + hi) / 2 + 1 → f t = false from fun t h1 => by
          cases h : f t with
          | false => rfl
          | true => have := HM.out t ((lo + hi) / 2) (by omega) (by omega) h; rw [HB.out] at this; cases this)
        go_wp2
        refine ⟨⟨(lo + hi) / 2 + 1, hi, by go_num, rfl, by omega, by omega, H2, hhi, HT2.out⟩, by simp [intOf]; omega⟩
    · obtain rfl : lo = hi := by omega
      go_wp2
      go_ret
      exact ⟨⟨lo, rfl, ⟨hlen, hlo.out, hhi.out⟩⟩, HT.out⟩


/-! Parts, plain. -/
theorem range_append (A B : List En) (a b : List UInt8) : rangeL (A ++ B) a b = rangeL A a b ++ rangeL B a b := List.filter_append ..
theorem range_low {A : List En} {a : List UInt8} (b : List UInt8) (h : ∀ e ∈ A, ltB e.k a = true) : rangeL A a b = [] := filter_none _ _ (fun e he => by simp [h e he])
theorem range_high {B : List En} (a : List UInt8) {b : List UInt8} (hb : b ≠ []) (h : ∀ e ∈ B, ltB e.k b = false) : rangeL B a b = [] := filter_none _ _ (fun e he => by
  have : (b == []) = false := by simpa using hb
  simp [h e he, this])
theorem flat_at {C : List (List En)} {i : Nat} {c : List En} (h : C[i]? = some c) : (C.take (i + 1)).flatten = (C.take i).flatten ++ c := by
  rw [List.take_add_one, h]
  simp
theorem flat_cut {C : List (List En)} {i : Nat} {c : List En} (h : C[i]? = some c) : C.flatten = (C.take i).flatten ++ c ++ (C.drop (i + 1)).flatten := by
  conv => lhs; rw [← List.take_append_drop (i + 1) C]
  rw [List.flatten_append, flat_at h]
theorem flat_len (C : List (List En)) (i : Nat) : (C.take i).flatten.length ≤ C.flatten.length := by
  conv => rhs; rw [← List.take_append_drop i C]
  rw [List.flatten_append, List.length_append]
  omega
/-- Entries of a part are below the first one of a later part. -/
theorem part_lt {C : List (List En)} (hs : Sorted C.flatten) {i j : Nat} {c d : List En} (hij : i < j) (hc : C[i]? = some c) (hd : C[j]? = some d) : ∀ x ∈ c, ∀ y ∈ d, ltB x.k y.k = true := by
  intro x hx y hy
  have h1 := (List.pairwise_flatten.1 hs).2
  obtain ⟨h2, rfl⟩ := List.getElem?_eq_some_iff.1 hc
  obtain ⟨h3, rfl⟩ := List.getElem?_eq_some_iff.1 hd
  exact (List.pairwise_iff_getElem.1 h1 i j h2 h3 hij) x hx y hy
theorem above_mono {C : List (List En)} {k : List UInt8} (hs : Sorted C.flatten) (hne : ∀ c ∈ C, c ≠ []) (i j : Nat) (hij : i ≤ j) (hj : j < C.length) (h : above C k i = true) : above C k j = true := by
  by_cases e : i = j
  · subst e; exact h
  · obtain ⟨c, hc⟩ : ∃ c, C[i]? = some c := ⟨_, List.getElem?_eq_getElem (by omega)⟩
    obtain ⟨d, hd⟩ : ∃ d, C[j]? = some d := ⟨_, List.getElem?_eq_getElem hj⟩
    obtain ⟨x, r, rfl⟩ := List.exists_cons_of_ne_nil (hne c (List.mem_of_getElem? hc))
    obtain ⟨y, t, rfl⟩ := List.exists_cons_of_ne_nil (hne d (List.mem_of_getElem? hd))
    unfold above at h ⊢
    rw [hc] at h
    rw [hd]
    exact lt_trans h (part_lt hs (by omega) hc hd x (by simp) y (by simp))
/-- What lies ahead of where it begins is below. -/
theorem begin_low {C : List (List En)} {a : List UInt8} {j : Nat} (hs : Sorted C.flatten) (hne : ∀ c ∈ C, c ≠ []) (h : From C.length (above C a) j) (b : List UInt8) : rangeL (C.take (j - 1)).flatten a b = [] := by
  refine range_low b (fun e he => ?_)
  obtain ⟨c, hc, hec⟩ := List.mem_flatten.1 he
  obtain ⟨i, hi⟩ := List.getElem?_of_mem hc
  have hil := (List.getElem?_eq_some_iff.1 hi).1
  rw [List.length_take] at hil
  rw [List.getElem?_take, if_pos (by omega)] at hi
  have hj := h.le
  obtain ⟨d, hd⟩ : ∃ d, C[i + 1]? = some d := ⟨_, List.getElem?_eq_getElem (by omega)⟩
  obtain ⟨y, t, rfl⟩ := List.exists_cons_of_ne_nil (hne d (List.mem_of_getElem? hd))
  have h1 := h.lo (i + 1) (by omega)
  unfold above at h1
  rw [hd] at h1
  exact lt_le (part_lt hs (by omega) hi hd e hec y (by simp)) h1

set_option maxHeartbeats 4000000 in
theorem between_sh {G : Prop} (w : World) (q : Sh) (a b : List UInt8) (h : ShR G w q) (ho : q.Ok) :
    Calls Tryz.prog 78 #[.pointer (some ⟨q.s, 0, none⟩), strV a, strV b] w fun e w' => ∃ v, e = .returned v ∧ EnO w.heap.size w' v (rangeL q.L a b) ∧ Stay (fun _ => False) w w' := by
  obtain ⟨n, hn⟩ : ∃ n, n = q.C.length := ⟨_, rfl⟩
  have hnl : n ≤ 100000 := by
    have h1 := ho.len
    have h2 : ∀ C : List (List En), (∀ c ∈ C, c ≠ []) → C.length ≤ C.flatten.length := by
      intro C
      induction C with
      | nil => intro _; simp
      | cons c r ih =>
        intro hc
        have h3 := ih (fun d hd => hc d (by simp [hd]))
        have h4 : 1 ≤ c.length := Nat.pos_of_ne_zero (fun h => hc c (by simp) (List.eq_nil_of_length_eq_zero h))
        simp only [List.length_cons, List.flatten_cons, List.length_append]
        omega
    have h3 := h2 q.C ho.ne
    unfold Sh.L at h1
    omega
  have HH := Lib.hid h
  have HO := Lib.hid ho
  have HN := Lib.hid hn
  have hnI : (n : Int) ≤ 100000 := by omega
  obtain ⟨w1, hw1⟩ : ∃ w1, w.alloc (.cells #[.pointer (some ⟨q.s, 0, none⟩)] 81) = w1 := ⟨_, rfl⟩
  obtain ⟨w2, hw2⟩ : ∃ w2, w1.alloc (.cells #[strV a] 9) = w2 := ⟨_, rfl⟩
  have hs1 : Stay (fun _ => False) w w1 := hw1 ▸ Stay.alloc _ _
  have hs2 : Stay (fun _ => False) w1 w2 := hw2 ▸ Stay.alloc _ _
  have hz1 : w1.heap.size = w.heap.size + 1 := by rw [← hw1]; simp
  obtain ⟨b1, hb1⟩ : ∃ b1, b1 = w.heap.size := ⟨_, rfl⟩
  have c1 : w1.cell? ⟨b1, 0, none⟩ = some (.pointer (some ⟨q.s, 0, none⟩)) := by rw [hb1, ← hw1, cell_of_row _ w.heap.size 0 _ _ _ (heap_alloc_new w _)]; rfl
  obtain ⟨b2, hb2⟩ : ∃ b2, b2 = w1.heap.size := ⟨_, rfl⟩
  have c2 : w2.cell? ⟨b2, 0, none⟩ = some (strV a) := by rw [hb2, ← hw2, cell_of_row _ w1.heap.size 0 _ _ _ (heap_alloc_new w1 _)]; rfl
  have HB2 := Lib.hid hb2
  have d1 := hs2.cell c1 (fun x => x)
  have W1 := Lib.hid hw1
  have W2 := Lib.hid hw2
  have HB := Lib.hid hb1
  have HZ := Lib.hid hz1
  have HS2 := Lib.hid (hs1.trans hs2)
  obtain ⟨t, ht0, hh⟩ := id h
  unfold ptrV at ht0
  have ht := HS2.out.cell ht0 (fun x => x)
  have HPT := Lib.hid (fun W (hW : Stay (fun _ => False) w2 W) => (hh W (HS2.out.trans hW)).1.parts)
  rw [← hn] at HPT
  unfold ptrV at HPT
  obtain ⟨s, hs⟩ : ∃ s, s = q.s := ⟨_, rfl⟩
  rw [← hs] at d1 W1 ht ht0 ⊢
  have HSQ := Lib.hid hs
  have C1 := Lib.hid d1
  have C2 := Lib.hid c2
  have CT := Lib.hid ht
  clear hw1 hw2 hs1 hs2 hz1 hb1 hb2 c1 hh h ho hs hn hnl d1 c2 ht ht0
  have hx0 : ((w.alloc (.cells #[.pointer (some ⟨s, 0, none⟩)] 81)).alloc (.cells #[strV a] 9)).cell? ⟨s, 0, none⟩ = some (.pointer (some ⟨t, 0, none⟩)) := by rw [W1.out, W2.out]; exact CT.out
  go_enter Tryz.func78, Tryz.ntmps78
  go_wp2_with fail
  rw [W1.out, W2.out, ← HZ.out, ← HB.out, ← HB2.out]
  refine (HPT.out w2 (Stay.refl _ _)).mono ?_
  rintro e w3 ⟨rfl, hs3⟩
  have HS23 := Lib.hid hs3
  have HSW3 := Lib.hid (HS2.out.trans hs3)
  clear hs3 hx0
  go_wp2_with fail
  refine (search_part n (above q.C a) _ _ w3 (by omega) (fun i j hij hj => above_mono HO.out.srt HO.out.ne i j hij (by rw [← HN.out]; exact hj)) (fun W hW i hi => above_any W b1 b2 q a i (HH.out.stay0 (HSW3.out.trans hW)) (by rw [← HSQ.out]; exact (HS23.out.trans hW).cell C1.out (fun x => x)) ((HS23.out.trans hW).cell C2.out (fun x => x)) (by rw [← HN.out]; exact hi) HO.out.ne)).mono ?_
  rintro e w4 ⟨⟨j, rfl, hj⟩, hs4⟩
  have HJ := Lib.hid (show From q.C.length (above q.C a) j from HN.out ▸ hj)
  have hjn := hj.le
  have HS24 := Lib.hid (HS23.out.trans hs4)
  clear hs4 hj HS23 HSW3
  obtain ⟨i0, hi0⟩ : ∃ i0, i0 = j - 1 := ⟨_, rfl⟩
  have HI0 := Lib.hid hi0
  have hi0n : i0 ≤ n := by omega
  have HMX := Lib.hid (show max ((j : Int) - 1) 0 = (i0 : Int) by omega)
  clear hi0
  go_wp2
  rw [HMX.out]
  have HLOW := Lib.hid (show rangeL (q.C.take i0).flatten a b = [] by rw [HI0.out]; exact begin_low HO.out.srt HO.out.ne HJ.out b)
  go_loopw [8, 9] (fun v i wr => ∃ i1 : Nat, i = .int .i64 (i1 : Int) ∧ i1 ≤ n ∧ Hid (EnO w2.heap.size wr v (rangeL (q.C.take i1).flatten a b)) ∧ Hid (Stay (fun _ => False) w2 wr)) (fun _ i _ => n - (intOf i).toNat)
  case atStart => exact ⟨i0, rfl, hi0n, Lib.hid (by rw [HLOW.out]; exact EnO.nil _ _), HS24⟩
  case round =>
    obtain ⟨i1, rfl, hi1, HV, HS⟩ := hrel
    obtain ⟨P, hP⟩ : ∃ P, P = rangeL (q.C.take i1).flatten a b := ⟨_, rfl⟩
    rw [← hP] at HV
    have HPP := Lib.hid hP
    obtain ⟨va, vc, rfl⟩ := HV.out.form
    have d1 := HS.out.cell C1.out (fun x => x)
    have d3 := HS.out.cell CT.out (fun x => x)
    clear hP
    go_wp2_with fail
    refine (HPT.out wr HS.out).mono ?_
    rintro e w5 ⟨rfl, hs5⟩
    have e1 := hs5.cell d1 (fun x => x)
    have HS5 := Lib.hid (HS.out.trans hs5)
    have HV5 := Lib.hid (HV.out.stay0 hs5)
    clear hs5 d1 d3
    by_cases hlt : i1 < n
    · obtain ⟨c, hc⟩ : ∃ c, q.C[i1]? = some c := ⟨_, List.getElem?_eq_getElem (by have := HN.out; omega)⟩
      have HPA := Lib.hid (part_sh w5 q i1 c (HH.out.stay0 (HS2.out.trans HS5.out)) hc)
      rw [← HSQ.out] at HPA
      have HC := Lib.hid hc
      clear hc
      go_wp2_with fail
      refine HPA.out.mono ?_
      rintro e w6 ⟨v6, rfl, ho6, hs6⟩
      have HX6 := Lib.hid ho6.ens
      have HD6 := Lib.hid (show ∀ k, (Value.slice va P.length vc).ownBlock = some k → v6.ownBlock ≠ some k from fun k hk h2 => by
        have h3 := (HV5.out.lt k hk).2
        have h4 := (ho6.lt k h2).1
        omega)
      have HG6 := Lib.hid (show ∀ k, v6.ownBlock = some k → k < w6.heap.size from fun k hk => (ho6.lt k hk).2)
      obtain ⟨a6, c6, rfl⟩ := ho6.form
      have HS6 := Lib.hid (HS5.out.trans hs6)
      have HV6 := Lib.hid (HV5.out.stay0 hs6)
      clear ho6 hs6 HPA e1
      obtain ⟨wo, rfl⟩ : ∃ wo, wo = w6 := ⟨_, rfl⟩
      have HCL := Lib.hid (show (q.C.take i1).flatten.length + c.length ≤ 100000 by
        have h1 := flat_len q.C (i1 + 1)
        rw [flat_at HC.out, List.length_append] at h1
        exact Nat.le_trans h1 HO.out.len)
      have hcl : (c.length : Int) ≤ 100000 := by have := HCL.out; omega
      go_wp2
      go_loopw [8, 35] (fun v i wr => ∃ m : Nat, i = .int .i64 (m : Int) ∧ m ≤ c.length ∧ Hid (EnO w2.heap.size wr v (rangeL ((q.C.take i1).flatten ++ c.take m) a b)) ∧ Hid (EnS wr (.slice a6 c.length c6) c) ∧ Hid (∀ k, v.ownBlock = some k → (Value.slice a6 c.length c6).ownBlock ≠ some k) ∧ Hid (Stay (fun _ => False) w2 wr) ∧ Hid (wo.heap.size ≤ wr.heap.size)) (fun _ i _ => c.length - (intOf i).toNat)
      case atStart => exact ⟨0, rfl, Nat.zero_le _, Lib.hid (by rw [List.take_zero, List.append_nil, ← HPP.out]; exact HV6.out), HX6, HD6, HS6, Lib.hid (Nat.le_refl _)⟩
      case round =>
        obtain ⟨m, rfl, hm, HV7, HX7, HDJ, HST7, HWO⟩ := hrel
        obtain ⟨P7, hP7⟩ : ∃ P7, P7 = rangeL ((q.C.take i1).flatten ++ c.take m) a b := ⟨_, rfl⟩
        rw [← hP7] at HV7
        have HPL := Lib.hid (show P7.length ≤ 100000 from by
          rw [hP7]
          have h1 := List.length_filter_le (fun e => !ltB e.k a && (b == [] || ltB e.k b)) ((q.C.take i1).flatten ++ c.take m)
          have h2 := HCL.out
          rw [List.length_append, List.length_take] at h1
          unfold rangeL
          omega)
        have HP7 := Lib.hid hP7
        obtain ⟨va7, vc7, rfl⟩ := HV7.out.form
        have g2 := HST7.out.cell C2.out (fun x => x)
        clear hP7
        by_cases hml : m < c.length
        · obtain ⟨e, he⟩ : ∃ e, c[m]? = some e := ⟨_, List.getElem?_eq_getElem hml⟩
          have HE := Lib.hid he
          obtain ⟨g, o, rfl, _, hcs⟩ := HX7.out.at (by omega)
          have HGB := Lib.hid (HG6.out g rfl)
          obtain ⟨k0, k1, k2⟩ := hcs _ e he
          have HLD := Lib.hid (fun W (hW : Stay (fun _ => False) wr W) => run_load_at (hW.cell k0 (fun x => x)) (hW.cell k1 (fun x => x)) (hW.cell k2 (fun x => x)))
          have HBN := Lib.hid (Box.new wr ⟨[], [], false⟩)
          have HAL := Lib.hid (show Stay (fun _ => False) wr (wr.alloc (.cells (enC ⟨[], [], false⟩).toArray 42)) from Stay.alloc _ _)
          obtain ⟨w8, hw8⟩ : ∃ w8, wr.alloc (.cells (enC ⟨[], [], false⟩).toArray 42) = w8 := ⟨_, rfl⟩
          rw [hw8] at HBN HAL
          have W8 := Lib.hid hw8
          have HNX := Lib.hid (show rangeL ((q.C.take i1).flatten ++ c.take (m + 1)) a b = P7 ++ (if (!ltB e.k a && (b == [] || ltB e.k b)) = true then [e] else []) by
            rw [List.take_add_one, he, Option.toList_some, ← List.append_assoc, range_append, ← HP7.out]
            congr 1
            unfold rangeL
            rw [List.filter_cons, List.filter_nil])
          have hla := less_eq e.k a
          have hlb := less_eq e.k b
          clear hcs k0 k1 k2 he hw8
          cases b with
          | nil =>
            cases hA : ltB e.k a with
            | true =>
              rw [hA] at hla
              have HR2 := Lib.hid (show rangeL ((q.C.take i1).flatten ++ c.take (m + 1)) a [] = P7 by rw [HNX.out]; simp [hA])
              go_wp2_with (first
                | (with_reducible refine alloc_en rfl rfl ?_; rw [W8.out])
                | (refine wpList_load_run (by rfl) 42 (.tmp 37) rfl ⟨g, o + m * 3, none⟩ rfl _ (HLD.out _ (Stay.refl _ _)) ?_)
                | (refine wpList_load_run (by rfl) 42 (.tmp 37) rfl ⟨g, o + m * 3, none⟩ rfl _ (HLD.out _ HAL.out) ?_)
                | (refine Box.store HBN.out rfl (.tmp 11) (.tmp 38) rfl rfl e rfl ?_
                   intro w9 hb9 hs9
                   have H9 := Lib.hid hb9
                   have HS9 := Lib.hid (show Stay (fun _ => False) wr w9 from stay_seal ((HAL.out.mono (Y := (· = wr.heap.size)) (fun _ x => x.elim)).trans hs9) (fun k hk => by have h1 : k = wr.heap.size := hk; omega))
                   have j2 := HS9.out.cell g2 (fun x => x)
                   have l0 := hb9.c (j := 0) rfl
                   clear hb9 hs9))
              refine ⟨⟨m + 1, by go_num, hml, Lib.hid (by rw [HR2.out]; exact HV7.out.stay0 HS9.out), Lib.hid (HX7.out.stay0 HS9.out), HDJ, Lib.hid (HST7.out.trans HS9.out), Lib.hid (Nat.le_trans HWO.out HS9.out.size)⟩, by simp [intOf]; omega⟩
            | false =>
              rw [hA] at hla
              have HR2 := Lib.hid (show rangeL ((q.C.take i1).flatten ++ c.take (m + 1)) a [] = P7 ++ [e] by rw [HNX.out]; simp [hA])
              go_wp2_with (first
                | (with_reducible refine alloc_en rfl rfl ?_; rw [W8.out])
                | (refine wpList_load_run (by rfl) 42 (.tmp 37) rfl ⟨g, o + m * 3, none⟩ rfl _ (HLD.out _ (Stay.refl _ _)) ?_)
                | (refine wpList_load_run (by rfl) 42 (.tmp 37) rfl ⟨g, o + m * 3, none⟩ rfl _ (HLD.out _ HAL.out) ?_)
                | (refine Box.store HBN.out rfl (.tmp 11) (.tmp 38) rfl rfl e rfl ?_
                   intro w9 hb9 hs9
                   have H9 := Lib.hid hb9
                   have HS9 := Lib.hid (show Stay (fun _ => False) wr w9 from stay_seal ((HAL.out.mono (Y := (· = wr.heap.size)) (fun _ x => x.elim)).trans hs9) (fun k hk => by have h1 : k = wr.heap.size := hk; omega))
                   have j2 := HS9.out.cell g2 (fun x => x)
                   have l0 := hb9.c (j := 0) rfl
                   clear hb9 hs9)
                | (refine wpList_load_run (by rfl) 42 (.tmp 11) rfl ⟨wr.heap.size, 0, none⟩ rfl _ H9.out.run_load ?_
                   have HV9 := Lib.hid (HV7.out.stay0 HS9.out)
                   have HBO := Lib.hid (Box.new w9 e)
                   have HA9 := Lib.hid (show Stay (fun _ => False) w9 (w9.alloc (.cells (enC e).toArray 42)) from Stay.alloc _ _)
                   obtain ⟨w10, hw10⟩ : ∃ w10, w9.alloc (.cells (enC e).toArray 42) = w10 := ⟨_, rfl⟩
                   rw [hw10] at HBO HA9
                   have W10 := Lib.hid hw10
                   have HV10 := Lib.hid (HV9.out.stay0 HA9.out)
                   have HST10 := Lib.hid (HST7.out.trans (HS9.out.trans HA9.out))
                   have HP10 := Lib.hid (HX7.out.stay0 (HS9.out.trans HA9.out))
                   have HW10 := Lib.hid (show wo.heap.size ≤ w10.heap.size from Nat.le_trans (Nat.le_trans HWO.out HS9.out.size) HA9.out.size)
                   clear hw10)
                | (refine list_one_en rfl (.tmp 53) rfl e rfl ?_; rw [W10.out])
                | (at_builtin
                   refine wpList_append_en rfl (.tmp 52) (.tmp 54) 34 rfl Tryz.underlying34 rfl rfl HV10.out (HBO.out.one 1 (by decide) (by decide)) (by rw [List.length_singleton]; have := HPL.out; omega) HST10.out.size ?_
                   intro v11 w11 ho11 hs11 hb11
                   have HO11 := Lib.hid ho11
                   have HST11 := Lib.hid (show Stay (fun _ => False) w2 w11 from stay_seal (X := fun k => w2.heap.size ≤ k) ((HST10.out.mono (fun _ x => x.elim)).trans (hs11.mono (fun k hk => (HV10.out.lt k hk).1))) (fun k hk => hk))
                   have HX11 := Lib.hid (show EnS w11 _ c from HP10.out.stay hs11 (fun k hk h2 => HDJ.out k h2 hk))
                   have HD11 := Lib.hid (show ∀ k, v11.ownBlock = some k → (Value.slice (some ⟨g, o, none⟩) c.length c6).ownBlock ≠ some k from fun k hk h2 => by
                     rcases hb11 with e9 | e9
                     · rw [e9] at hk; exact HDJ.out k hk h2
                     · rw [e9] at hk
                       have h3 := HGB.out
                       have h4 := HW10.out
                       have h5 : some g = some k := h2
                       have h6 := Option.some.inj (h5.trans hk.symm)
                       omega)
                   have HW11 := Lib.hid (show wo.heap.size ≤ w11.heap.size from Nat.le_trans HW10.out hs11.size)
                   clear ho11 hs11 hb11))
              refine ⟨⟨m + 1, by go_num, hml, Lib.hid (by rw [HR2.out]; exact HO11.out), HX11, HD11, HST11, HW11⟩, by simp [intOf]; omega⟩
          | cons b0 br =>
            cases hB : ltB e.k (b0 :: br) with
            | true =>
              rw [hB] at hlb
              cases hA : ltB e.k a with
              | true =>
                rw [hA] at hla
                have HR2 := Lib.hid (show rangeL ((q.C.take i1).flatten ++ c.take (m + 1)) a (b0 :: br) = P7 by rw [HNX.out]; simp [hA])
                go_wp2_with (first
                  | (with_reducible refine alloc_en rfl rfl ?_; rw [W8.out])
                  | (refine wpList_load_run (by rfl) 42 (.tmp 37) rfl ⟨g, o + m * 3, none⟩ rfl _ (HLD.out _ (Stay.refl _ _)) ?_)
                  | (refine wpList_load_run (by rfl) 42 (.tmp 37) rfl ⟨g, o + m * 3, none⟩ rfl _ (HLD.out _ HAL.out) ?_)
                  | (refine Box.store HBN.out rfl (.tmp 11) (.tmp 38) rfl rfl e rfl ?_
                     intro w9 hb9 hs9
                     have H9 := Lib.hid hb9
                     have HS9 := Lib.hid (show Stay (fun _ => False) wr w9 from stay_seal ((HAL.out.mono (Y := (· = wr.heap.size)) (fun _ x => x.elim)).trans hs9) (fun k hk => by have h1 : k = wr.heap.size := hk; omega))
                     have j2 := HS9.out.cell g2 (fun x => x)
                     have l0 := hb9.c (j := 0) rfl
                     clear hb9 hs9))
                refine ⟨⟨m + 1, by go_num, hml, Lib.hid (by rw [HR2.out]; exact HV7.out.stay0 HS9.out), Lib.hid (HX7.out.stay0 HS9.out), HDJ, Lib.hid (HST7.out.trans HS9.out), Lib.hid (Nat.le_trans HWO.out HS9.out.size)⟩, by simp [intOf]; omega⟩
              | false =>
                rw [hA] at hla
                have HR2 := Lib.hid (show rangeL ((q.C.take i1).flatten ++ c.take (m + 1)) a (b0 :: br) = P7 ++ [e] by rw [HNX.out]; simp [hA, hB])
                go_wp2_with (first
                  | (with_reducible refine alloc_en rfl rfl ?_; rw [W8.out])
                  | (refine wpList_load_run (by rfl) 42 (.tmp 37) rfl ⟨g, o + m * 3, none⟩ rfl _ (HLD.out _ (Stay.refl _ _)) ?_)
                  | (refine wpList_load_run (by rfl) 42 (.tmp 37) rfl ⟨g, o + m * 3, none⟩ rfl _ (HLD.out _ HAL.out) ?_)
                  | (refine Box.store HBN.out rfl (.tmp 11) (.tmp 38) rfl rfl e rfl ?_
                     intro w9 hb9 hs9
                     have H9 := Lib.hid hb9
                     have HS9 := Lib.hid (show Stay (fun _ => False) wr w9 from stay_seal ((HAL.out.mono (Y := (· = wr.heap.size)) (fun _ x => x.elim)).trans hs9) (fun k hk => by have h1 : k = wr.heap.size := hk; omega))
                     have j2 := HS9.out.cell g2 (fun x => x)
                     have l0 := hb9.c (j := 0) rfl
                     clear hb9 hs9)
                  | (refine wpList_load_run (by rfl) 42 (.tmp 11) rfl ⟨wr.heap.size, 0, none⟩ rfl _ H9.out.run_load ?_
                     have HV9 := Lib.hid (HV7.out.stay0 HS9.out)
                     have HBO := Lib.hid (Box.new w9 e)
                     have HA9 := Lib.hid (show Stay (fun _ => False) w9 (w9.alloc (.cells (enC e).toArray 42)) from Stay.alloc _ _)
                     obtain ⟨w10, hw10⟩ : ∃ w10, w9.alloc (.cells (enC e).toArray 42) = w10 := ⟨_, rfl⟩
                     rw [hw10] at HBO HA9
                     have W10 := Lib.hid hw10
                     have HV10 := Lib.hid (HV9.out.stay0 HA9.out)
                     have HST10 := Lib.hid (HST7.out.trans (HS9.out.trans HA9.out))
                     have HP10 := Lib.hid (HX7.out.stay0 (HS9.out.trans HA9.out))
                     have HW10 := Lib.hid (show wo.heap.size ≤ w10.heap.size from Nat.le_trans (Nat.le_trans HWO.out HS9.out.size) HA9.out.size)
                     clear hw10)
                  | (refine list_one_en rfl (.tmp 53) rfl e rfl ?_; rw [W10.out])
                  | (at_builtin
                     refine wpList_append_en rfl (.tmp 52) (.tmp 54) 34 rfl Tryz.underlying34 rfl rfl HV10.out (HBO.out.one 1 (by decide) (by decide)) (by rw [List.length_singleton]; have := HPL.out; omega) HST10.out.size ?_
                     intro v11 w11 ho11 hs11 hb11
                     have HO11 := Lib.hid ho11
                     have HST11 := Lib.hid (show Stay (fun _ => False) w2 w11 from stay_seal (X := fun k => w2.heap.size ≤ k) ((HST10.out.mono (fun _ x => x.elim)).trans (hs11.mono (fun k hk => (HV10.out.lt k hk).1))) (fun k hk => hk))
                     have HX11 := Lib.hid (show EnS w11 _ c from HP10.out.stay hs11 (fun k hk h2 => HDJ.out k h2 hk))
                     have HD11 := Lib.hid (show ∀ k, v11.ownBlock = some k → (Value.slice (some ⟨g, o, none⟩) c.length c6).ownBlock ≠ some k from fun k hk h2 => by
                       rcases hb11 with e9 | e9
                       · rw [e9] at hk; exact HDJ.out k hk h2
                       · rw [e9] at hk
                         have h3 := HGB.out
                         have h4 := HW10.out
                         have h5 : some g = some k := h2
                         have h6 := Option.some.inj (h5.trans hk.symm)
                         omega)
                     have HW11 := Lib.hid (show wo.heap.size ≤ w11.heap.size from Nat.le_trans HW10.out hs11.size)
                     clear ho11 hs11 hb11))
                refine ⟨⟨m + 1, by go_num, hml, Lib.hid (by rw [HR2.out]; exact HO11.out), HX11, HD11, HST11, HW11⟩, by simp [intOf]; omega⟩
            | false =>
              rw [hB] at hlb
              have HEND := Lib.hid (show rangeL q.L a (b0 :: br) = P7 by
                unfold Sh.L
                rw [flat_cut HC.out, ← List.take_append_drop m c, List.append_assoc, List.append_assoc, ← List.append_assoc, range_append, ← HP7.out, range_high a (by simp) (fun x hx => ?_), List.append_nil]
                have hsr := HO.out.srt
                unfold Sh.L at hsr
                rw [flat_cut HC.out] at hsr
                obtain ⟨hm1, hm2⟩ := List.getElem?_eq_some_iff.1 HE.out
                have hdr : c.drop m = e :: c.drop (m + 1) := by rw [List.drop_eq_getElem_cons hm1, hm2]
                rw [← List.take_append_drop m c, hdr, List.append_assoc, List.append_assoc] at hsr
                rw [hdr] at hx
                have h2 := (List.pairwise_append.1 (List.pairwise_append.1 hsr).2.1).2.1
                rcases List.mem_cons.1 hx with rfl | hx
                · exact hB
                · have h3 := sorted_head h2 x hx
                  cases h4 : ltB x.k (b0 :: br) with
                  | false => rfl
                  | true => rw [lt_trans h3 h4] at hB; cases hB)
              go_wp2_with (first
                | (with_reducible refine alloc_en rfl rfl ?_; rw [W8.out])
                | (refine wpList_load_run (by rfl) 42 (.tmp 37) rfl ⟨g, o + m * 3, none⟩ rfl _ (HLD.out _ (Stay.refl _ _)) ?_)
                | (refine wpList_load_run (by rfl) 42 (.tmp 37) rfl ⟨g, o + m * 3, none⟩ rfl _ (HLD.out _ HAL.out) ?_)
                | (refine Box.store HBN.out rfl (.tmp 11) (.tmp 38) rfl rfl e rfl ?_
                   intro w9 hb9 hs9
                   have H9 := Lib.hid hb9
                   have HS9 := Lib.hid (show Stay (fun _ => False) wr w9 from stay_seal ((HAL.out.mono (Y := (· = wr.heap.size)) (fun _ x => x.elim)).trans hs9) (fun k hk => by have h1 : k = wr.heap.size := hk; omega))
                   have j2 := HS9.out.cell g2 (fun x => x)
                   have l0 := hb9.c (j := 0) rfl
                   clear hb9 hs9))
              go_ret
              exact ⟨_, rfl, by rw [HEND.out]; exact (HV7.out.stay0 HS9.out).rebase (fun k hk => by have h1 := ((HV7.out.stay0 HS9.out).lt k hk).1; have h2 := HS2.out.size; omega), HS2.out.trans (HST7.out.trans HS9.out)⟩
        · obtain rfl : m = c.length := by omega
          have HV8 := Lib.hid (show EnO w2.heap.size wr (.slice va7 P7.length vc7) (rangeL (q.C.take (i1 + 1)).flatten a b) from by
            have h1 := HP7.out
            rw [List.take_length, ← flat_at HC.out] at h1
            rw [← h1]
            exact HV7.out)
          go_wp2
          refine ⟨⟨i1 + 1, by go_num, hlt, HV8, HST7⟩, by simp [intOf]; omega⟩
    · obtain rfl : i1 = n := by omega
      have HFN := Lib.hid (show rangeL q.L a b = P by
        rw [HPP.out, HN.out, List.take_length]
        rfl)
      go_wp2
      go_ret
      exact ⟨_, rfl, by rw [HFN.out]; exact HV5.out.rebase (fun k hk => by have h1 := (HV5.out.lt k hk).1; have h2 := HS2.out.size; omega), HS2.out.trans HS5.out⟩
end Go.Proofs.YtljlfdhjolcnaaaGreat.Ix

/-
  index: a stack's entries of a range; Range.
-/
namespace Go.Proofs.YtljlfdhjolcnaaaGreat.Ix
open Go.RowKit Go.Maps Me Mg
open Pk (Owns Slc)
set_option maxRecDepth 100000
set_option linter.unusedVariables false

theorem sumL_ranges (a b : List UInt8) : ∀ Ls : List (List En), sumL (rangesL Ls a b) ≤ sumL Ls
  | [] => Nat.le_refl _
  | L :: r => by
    have ih := sumL_ranges a b r
    have h1 := List.length_filter_le (fun e => !ltB e.k a && (b == [] || ltB e.k b)) L
    have h2 : (rangeL L a b).length ≤ L.length := h1
    simp only [sumL, rangesL, List.map_cons, List.sum_cons] at ih ⊢
    omega
theorem ranges_snoc (Ls : List (List En)) (L : List En) (a b : List UInt8) : rangesL (Ls ++ [L]) a b = rangesL Ls a b ++ [rangeL L a b] := by simp [rangesL]
theorem Stk.fine {G : Prop} {W : World} {av tv : Value} {A : List En} {Q : List Sh} (h : Stk G W av tv A Q) : Fine (listsS A Q) := by
  intro L hL
  unfold listsS at hL
  rcases List.mem_cons.1 hL with rfl | hL
  · exact ⟨h.srt, h.nrm⟩
  · obtain ⟨q, hq, rfl⟩ := List.mem_map.1 hL
    exact ⟨(h.ok q hq).srt, (h.ok q hq).nrm⟩
set_option maxHeartbeats 2000000 in
theorem range_st {G : Prop} (w : World) (av tv : Value) (A : List En) (Q : List Sh) (a b : List UInt8) (h : Stk G w av tv A Q) (hQ : Q.length ≤ 900) (hz : sumL (listsS A Q) ≤ 1000) :
    Calls Tryz.prog 43 #[.agg #[av, tv], strV a, strV b] w fun e w' => ∃ v, e = .returned v ∧ EnO w.heap.size w' v (askL (listsS A Q) a b) ∧ Stay (fun _ => False) w w' := by
  have HH := Lib.hid h
  obtain ⟨p0, rfl⟩ := h.mr.ptr
  obtain ⟨ta, tc, rfl⟩ := h.ps.form
  have hl : (ptrs (Q.map (·.s))).length = Q.length := by rw [len_ptrs, List.length_map]
  rw [hl] at HH ⊢
  have hb0 : SBox (w.alloc (.cells #[.pointer p0, .slice ta Q.length tc] 98)) w.heap.size (.pointer p0) (.slice ta Q.length tc) := heap_alloc_new w _
  have hs0 : Stay (fun _ => False) w (w.alloc (.cells #[.pointer p0, .slice ta Q.length tc] 98)) := Stay.alloc _ _
  obtain ⟨w0, hw0⟩ : ∃ w0, w.alloc (.cells #[.pointer p0, .slice ta Q.length tc] 98) = w0 := ⟨_, rfl⟩
  rw [hw0] at hb0 hs0
  obtain ⟨r, hr⟩ : ∃ r, r = w.heap.size := ⟨_, rfl⟩
  rw [← hr] at hb0
  have W0 := Lib.hid hw0
  have HR := Lib.hid hr
  have HB0 := Lib.hid hb0
  have HS0 := Lib.hid hs0
  have hA : A.length ≤ 1000 := Nat.le_trans (sumL_at (Ls := listsS A Q) (by unfold listsS; simp)) hz
  have HRG := Lib.hid (Me.range_any w0 (.pointer p0) A a b (h.mr.stay0 hs0) h.srt (by omega))
  have hQI : (Q.length : Int) ≤ 900 := by omega
  have HQL := Lib.hid hQ
  have HZ := Lib.hid (Nat.le_trans (sumL_ranges a b (listsS A Q)) hz)
  clear h hw0 hb0 hs0 hr hA hQ hl hz
  go_enter Tryz.func43, Tryz.ntmps43
  go_wp2_with fail
  rw [W0.out, ← HR.out]
  refine HRG.out.mono ?_
  rintro e w1 ⟨v1, rfl, ho1, hs1⟩
  have HB1 := Lib.hid (HB0.out.stay0 hs1)
  have r1 := HB1.out.c1
  have HO1 := Lib.hid (ho1.rebase (base' := w0.heap.size) (fun k hk => (ho1.lt k hk).1))
  obtain ⟨a1, n1, m1, rfl⟩ : ∃ a n c, v1 = .slice a n c := by obtain ⟨p, q, e⟩ := ho1.form; exact ⟨p, _, q, e⟩
  have HS1 := Lib.hid hs1
  have r2 : (w1.alloc (.cells #[.slice a1 n1 m1] 34)).cell? ⟨r, 1, none⟩ = some (.slice ta Q.length tc) := (Stay.alloc (X := fun _ => False) _ _).cell r1 (fun x => x)
  have hlo : LsO w0.heap.size (w1.alloc (.cells #[.slice a1 n1 m1] 34)) (.slice (some ⟨w1.heap.size, 0, none⟩) 1 1) (rangesL (listsS A (Q.take 0)) a b) :=
    ⟨[.slice a1 n1 m1], CO.lit w1 [.slice a1 n1 m1] HS1.out.size (by simp), fun i L hL => by
      have hi : i = 0 := by
        have := (List.getElem?_eq_some_iff.1 hL).1
        simp [rangesL, listsS] at this
        exact this
      subst hi
      simp [rangesL, listsS] at hL
      subst hL
      exact ⟨_, rfl, HO1.out.stay0 (Stay.alloc _ _)⟩⟩
  have HS2 := Lib.hid (HS1.out.trans (Stay.alloc (X := fun _ => False) w1 (.cells #[.slice a1 n1 m1] 34)))
  have HLO := Lib.hid hlo
  clear ho1 hs1 HRG hlo
  go_wp2
  obtain ⟨g1, hg1⟩ : ∃ g1, g1 = w1.heap.size := ⟨_, rfl⟩
  rw [← hg1] at HLO ⊢
  generalize w1.alloc (.cells #[.slice a1 n1 m1] 34) = w2 at *
  clear hg1 r1 r2 HO1 HS1 HB1 HB0
  go_loopw [7, 21] (fun v i wr => ∃ j : Nat, i = .int .i64 (j : Int) ∧ j ≤ Q.length ∧ Hid (LsO w0.heap.size wr v (rangesL (listsS A (Q.take j)) a b)) ∧ Hid (Stay (fun _ => False) w0 wr)) (fun _ i _ => Q.length - (intOf i).toNat)
  case atStart => exact ⟨0, rfl, Nat.zero_le _, HLO, HS2⟩
  case round =>
    obtain ⟨j, rfl, hj, HV, HS⟩ := hrel
    have HW := Lib.hid (HH.out.stay0 (HS0.out.trans HS.out))
    by_cases hlt : j < Q.length
    · obtain ⟨q, hq⟩ : ∃ q, Q[j]? = some q := ⟨_, List.getElem?_eq_getElem hlt⟩
      have hqp : (ptrs (Q.map (·.s)))[j]? = some (ptrV q.s) := at_ptrs (by simp [hq])
      obtain ⟨gt, o, rfl, _, hc⟩ := HW.out.ps.at (by rw [len_ptrs, List.length_map]; omega)
      have cq := hc j _ hqp
      unfold ptrV at cq
      have HBT := Lib.hid (between_sh wr q a b (HW.out.sh q (List.mem_of_getElem? hq)) (HW.out.ok q (List.mem_of_getElem? hq)))
      have HNX := Lib.hid (show rangesL (listsS A (Q.take (j + 1))) a b = rangesL (listsS A (Q.take j)) a b ++ [rangeL q.L a b] by rw [lists_take A hq, ranges_snoc])
      obtain ⟨M, hM⟩ : ∃ M, M = rangesL (listsS A (Q.take j)) a b := ⟨_, rfl⟩
      rw [← hM] at HV HNX
      have HML := Lib.hid (show M.length ≤ 1000000 by rw [hM]; simp [rangesL, listsS]; omega)
      obtain ⟨va, vc, rfl⟩ := HV.out.form
      generalize q.s = s at *
      clear hc hqp hq hM
      go_wp2_with (first
        | (go_at_call 78
           refine HBT.out.mono ?_
           rintro y w3 ⟨v3, rfl, ho3, hs3⟩
           obtain ⟨a3, n3, m3, rfl⟩ : ∃ a n c, v3 = .slice a n c := (by obtain ⟨p, q, e⟩ := ho3.form; exact ⟨p, _, q, e⟩)
           have HO3 := Lib.hid (show EnO w0.heap.size w3 _ (rangeL q.L a b) from ho3.rebase (fun k hk => Nat.le_trans HS.out.size (ho3.lt k hk).1))
           have HV3 := Lib.hid (HV.out.stay0 hs3)
           have HS3 := Lib.hid (HS.out.trans hs3)
           have HA3 := Lib.hid (show Stay (fun _ => False) w3 (w3.alloc (.cells #[.slice a3 n3 m3] 34)) from Stay.alloc _ _)
           have HC3 := Lib.hid (show (w3.alloc (.cells #[.slice a3 n3 m3] 34)).cell? ⟨w3.heap.size, 0, none⟩ = some (.slice a3 n3 m3) from by rw [cell_of_row _ w3.heap.size 0 _ _ _ (heap_alloc_new w3 _)]; rfl)
           clear ho3 hs3)
        | (at_builtin
           refine wpList_append_ls rfl (.tmp 25) (.tmp 30) 51 rfl Tryz.underlying51 w3.heap.size 1 (.slice a3 n3 m3) (rangeL q.L a b) rfl rfl (HV3.out.stay0 HA3.out) (HO3.out.stay0 HA3.out) rfl HC3.out HML.out (HS3.out.trans HA3.out).size ?_
           intro v4 w4 ho4 hs4 hb4
           have HO4 := Lib.hid ho4
           have HS4 := Lib.hid (show Stay (fun _ => False) w0 w4 from stay_seal (X := fun k => w0.heap.size ≤ k) (((HS3.out.trans HA3.out).mono (fun _ x => x.elim)).trans (hs4.mono (fun k hk => (HV3.out.lt k hk).1))) (fun k hk => hk))
           clear ho4 hs4 hb4))
      refine ⟨⟨j + 1, by go_num, hlt, Lib.hid (by rw [HNX.out]; exact HO4.out), HS4⟩, by simp [intOf]; omega⟩
    · obtain rfl : j = Q.length := by omega
      have HV2 := Lib.hid (show LsO w0.heap.size wr _ (rangesL (listsS A Q) a b) from by have h1 := HV.out; rwa [List.take_length] at h1)
      have HAL := Lib.hid (Mg.all_any wr _ (rangesL (listsS A Q) a b) true HV2.out.ess (by simp [rangesL, listsS]; have := HQL.out; omega) HZ.out)
      have HFI := Lib.hid (HH.out.fine.ranges a b)
      clear hj hlt
      go_wp2_with fail
      refine HAL.out.mono ?_
      rintro y w3 ⟨hs3, hc⟩
      rcases hc with ⟨_, v3, rfl, ho3⟩ | ⟨hno, _⟩
      · have HO3 := Lib.hid (show EnO wr.heap.size w3 v3 (askL (listsS A Q) a b) from ho3)
        have HS3 := Lib.hid (HS0.out.trans (HS.out.trans hs3))
        clear ho3 hs3
        go_wp2
        go_ret
        exact ⟨_, rfl, HO3.out.rebase (fun k hk => Nat.le_trans (HS0.out.trans HS.out).size (HO3.out.lt k hk).1), HS3.out⟩
      · exact absurd (fun L hL => (HFI.out L hL).1) hno
/-- How many entries an index has, each table's. -/
structure Sz2 (I : Im) : Prop where
  t : I.LS.flatten.length ≤ 900
  l : I.LS.length ≤ 1000
  n : sumL I.lists ≤ 1000
theorem Sz2.sz {I : Im} (h : Sz2 I) : Sz I := ⟨Nat.le_trans (sumL_at (Ls := I.lists) (by unfold Im.lists listsS; simp)) (Nat.le_trans h.n (by decide)), Nat.le_trans h.l (by decide), Nat.le_trans h.t (by decide)⟩
theorem range_ix {A : Nat → Prop} (w : World) (x : Nat) (I : Im) (a b : List UInt8) (h : IxAt A w x I) (hz : Sz2 I) :
    Calls Tryz.prog 18 #[.pointer (some ⟨x, 0, none⟩), strV a, strV b] w fun e w' => ∃ v, e = .returned v ∧ EnO w.heap.size w' v (askL I.lists a b) ∧ Stay (fun _ => False) w w' := by
  have HAL := Lib.hid (all_ix w x I h hz.sz.l hz.sz.t)
  have HG := Lib.hid (fun W av tv (hs : Stk I.g W av tv I.A I.LS.flatten) => range_st W av tv I.A I.LS.flatten a b hs hz.t hz.n)
  clear h hz
  go_enter Tryz.func18, Tryz.ntmps18
  go_wp2_with fail
  refine HAL.out.mono ?_
  rintro e w1 ⟨av, tv, rfl, hst, hco, hs1⟩
  have HST := Lib.hid hst
  have HS1 := Lib.hid hs1
  clear hst hco hs1 HAL
  go_wp2_with fail
  refine (HG.out _ _ _ HST.out).mono ?_
  rintro e w2 ⟨v2, rfl, ho2, hs2⟩
  have HO2 := Lib.hid ho2
  have HS2 := Lib.hid (HS1.out.trans hs2)
  clear hs2 ho2
  go_wp2
  go_ret
  exact ⟨_, rfl, HO2.out.rebase (fun k hk => Nat.le_trans HS1.out.size (HO2.out.lt k hk).1), HS2.out⟩
end Go.Proofs.YtljlfdhjolcnaaaGreat.Ix

