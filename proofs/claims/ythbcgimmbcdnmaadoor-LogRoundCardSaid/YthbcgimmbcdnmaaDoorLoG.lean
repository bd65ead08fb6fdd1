/-
  log: rows of cells of one's own; a Log in memory; its small calls.
-/
import Derived.Test.YthbcgimmbcdnmaaDoorLoF
namespace Go.Proofs.YthbcgimmbcdnmaaDoor.Lo
open Go.RowKit
open Pk (Slc Owns errV errV_pos errV_zero)
open Tg (writeD flushD down DOk)
set_option maxRecDepth 100000
set_option linter.unusedVariables false

/-- A block of cells of this type. -/
def Ty (w : World) (k : Nat) (t : TypeId) : Prop := ∃ cs fr, w.heap[k]? = some (.cells cs t fr)
section
variable {w w' : World} {k j : Nat} {t t' : TypeId} {X : Nat → Prop}
theorem Ty.uniq (h : Ty w k t) (h' : Ty w k t') : t = t' := by
  obtain ⟨cs, fr, e⟩ := h
  obtain ⟨cs', fr', e'⟩ := h'
  rw [e] at e'
  cases e'
  rfl
theorem Ty.ne (h : Ty w k t) (h' : Ty w j t') (ht : t ≠ t') : k ≠ j := by
  rintro rfl
  exact ht (h.uniq h')
theorem Ty.lt (h : Ty w k t) : k < w.heap.size := by
  obtain ⟨cs, fr, e⟩ := h
  exact (Array.getElem?_eq_some_iff.1 e).1
theorem Ty.stay (h : Ty w k t) (hs : Stay X w w') (hx : ¬ X k) : Ty w' k t := by
  obtain ⟨cs, fr, e⟩ := h
  exact ⟨cs, fr, (hs.block k (Array.getElem?_eq_some_iff.1 e).1 hx).trans e⟩
end

/-- A slice whose cells are these. -/
def CS (w : World) (v : Value) (vs : List Value) : Prop :=
  ∃ a0 c, v = .slice a0 vs.length c ∧ vs.length ≤ c ∧ c ≤ 9223372036854775807 ∧ (a0 = none → c = 0) ∧ (0 < vs.length → ∃ g o, a0 = some ⟨g, o, none⟩ ∧ ∀ i u, vs[i]? = some u → w.cell? ⟨g, o + i, none⟩ = some u)
/-- A row of cells of one's own. -/
def CO (base : Nat) (t : TypeId) (w : World) (v : Value) (vs : List Value) : Prop := w.ownsRow base t 1 v vs.length vs
section
variable {base : Nat} {t : TypeId} {w w' : World} {v : Value} {vs us : List Value} {X : Nat → Prop}
theorem CS.stay (h : CS w v vs) (hs : Stay X w w') (hx : ∀ k, v.ownBlock = some k → ¬ X k) : CS w' v vs := by
  obtain ⟨a0, c, rfl, h1, h2, h3, h4⟩ := h
  refine ⟨a0, c, rfl, h1, h2, h3, fun h0 => ?_⟩
  obtain ⟨g, o, rfl, hc⟩ := h4 h0
  exact ⟨g, o, rfl, fun i u hu => hs.cell (hc i u hu) (hx g rfl)⟩
theorem CS.stay0 (h : CS w v vs) (hs : Stay (fun _ => False) w w') : CS w' v vs := h.stay hs (fun _ _ x => x)
theorem CS.nil (w : World) : CS w (.slice none 0 0) [] := ⟨none, 0, rfl, Nat.le_refl _, by decide, fun _ => rfl, fun h => absurd h (Nat.lt_irrefl 0)⟩
theorem CS.form (h : CS w v vs) : ∃ a c, v = .slice a vs.length c := by
  obtain ⟨a0, c, e, _⟩ := h
  exact ⟨a0, c, e⟩
theorem CS.len (h : CS w v vs) : vs.length ≤ 9223372036854775807 := by
  obtain ⟨a0, c, e, h1, h2, _⟩ := h
  omega
theorem CS.at {a0 : Option Addr} {n c : Nat} (h : CS w (.slice a0 n c) vs) (h0 : 0 < vs.length) : ∃ g o, a0 = some ⟨g, o, none⟩ ∧ g < w.heap.size ∧ ∀ i u, vs[i]? = some u → w.cell? ⟨g, o + i, none⟩ = some u := by
  obtain ⟨a1, c1, e, h1, h2, h3, h4⟩ := h
  cases e
  obtain ⟨g, o, rfl, hc⟩ := h4 h0
  obtain ⟨u, hu⟩ : ∃ u, vs[0]? = some u := ⟨_, List.getElem?_eq_getElem h0⟩
  exact ⟨g, o, rfl, World.block_lt_of_cell? w _ (hc 0 u hu), hc⟩
/-- Cells from some place on, up to another one. -/
theorem CS.part {a0 : Option Addr} {n c i j : Nat} (h : CS w (.slice a0 n c) vs) (hi : i ≤ j) (hj : j ≤ vs.length) : CS w (.slice (if c = i then a0 else a0.map (·.add i)) (j - i) (c - i)) ((vs.drop i).take (j - i)) := by
  obtain ⟨a1, c1, e, h1, h2, h3, h4⟩ := h
  cases e
  have hl : ((vs.drop i).take (j - i)).length = j - i := by rw [List.length_take, List.length_drop]; omega
  refine ⟨_, c - i, by rw [hl], by omega, by omega, fun e => ?_, fun h0 => ?_⟩
  · split at e
    · omega
    · cases a0 with
      | none => have := h3 rfl; omega
      | some ad => cases e
  · obtain ⟨g, o, rfl, hc⟩ := h4 (by omega)
    rw [if_neg (by omega)]
    refine ⟨g, o + i, by rw [Option.map_some, add_at], fun m u hu => ?_⟩
    rw [List.getElem?_take] at hu
    split at hu
    · rw [List.getElem?_drop] at hu
      have := hc _ u hu
      rwa [show o + (i + m) = o + i + m by omega] at this
    · cases hu

theorem CO.stay (h : CO base t w v vs) (hs : Stay X w w') (hx : ∀ k, v.ownBlock = some k → ¬ X k) : CO base t w' v vs := by
  refine ⟨h.1, ?_⟩
  rcases h.2 with h' | ⟨g, cap, cur, rfl, h4, hg, r⟩
  · exact .inl h'
  · exact .inr ⟨g, cap, cur, rfl, h4, (hs.block g (Array.getElem?_eq_some_iff.1 hg).1 (hx g rfl)).trans hg, r⟩
theorem CO.stay0 (h : CO base t w v vs) (hs : Stay (fun _ => False) w w') : CO base t w' v vs := h.stay hs (fun _ _ x => x)
theorem CO.rebase {base' : Nat} (h : CO base t w v vs) (hb : ∀ k, v.ownBlock = some k → base' ≤ k) : CO base' t w v vs := by
  refine ⟨h.1, ?_⟩
  rcases h.2 with h' | ⟨g, cap, cur, rfl, h4, r⟩
  · exact .inl h'
  · exact .inr ⟨g, cap, cur, rfl, hb g rfl, r⟩
theorem CO.zero (h : CO base t w v vs) : CO 0 t w v vs := h.rebase (fun k _ => Nat.zero_le k)
theorem CO.lt (h : CO base t w v vs) : ∀ k, v.ownBlock = some k → base ≤ k ∧ k < w.heap.size := World.ownsRow.lt h
theorem CO.form (h : CO base t w v vs) : ∃ a c, v = .slice a vs.length c := by
  rcases h.2 with ⟨e, hn⟩ | ⟨g, cap, cur, e, _⟩
  · exact ⟨none, 0, by rw [e, hn]⟩
  · exact ⟨_, _, e⟩
theorem CO.one (h : CO base t w v vs) : v.oneCell' = true := by
  obtain ⟨a, c, rfl⟩ := h.form
  rfl
theorem CO.nil (base : Nat) (t : TypeId) (w : World) : CO base t w (.slice none 0 0) [] := World.ownsRow_nil w base _ _
theorem CO.lit (w : World) (vs : List Value) (hb : base ≤ w.heap.size) (hm : vs.length ≤ 1000000) : CO base t (w.alloc (.cells vs.toArray t)) (.slice (some ⟨w.heap.size, 0, none⟩) vs.length vs.length) vs := by
  have := World.ownsRow_lit (base := base) (e := t) (size := 1) w vs.toArray vs.length hb (by unfold maxLen; omega) (by simp)
  simpa [CO] using this
theorem CO.at (h : CO base t w v vs) (h0 : 0 < vs.length) : ∃ g c, v = .slice (some ⟨g, 0, none⟩) vs.length c ∧ vs.length ≤ c ∧ c ≤ 9223372036854775807 ∧ base ≤ g ∧ g < w.heap.size := by
  rcases h.2 with ⟨e, hn⟩ | ⟨g, cap, cur, e, h4, hg, h5, h6, _⟩
  · omega
  · exact ⟨g, cap, e, h5, by unfold maxLen at h6; omega, h4, (Array.getElem?_eq_some_iff.1 hg).1⟩
theorem CO.cell {g n c : Nat} (h : CO base t w (.slice (some ⟨g, 0, none⟩) n c) vs) {j : Nat} {u : Value} (hj : vs[j]? = some u) : w.cell? ⟨g, j, none⟩ = some u := by
  have := World.ownsRow.cells (g := g) h rfl j _ hj
  rwa [add_at, Nat.zero_add] at this
theorem CO.fr {g n c : Nat} (h : CO base t w (.slice (some ⟨g, 0, none⟩) n c) vs) (j : Nat) : w.frozen? ⟨g, j, none⟩ = false := by
  rcases h.2 with ⟨e, _⟩ | ⟨g', cap, cur, e, h4, hg, r⟩
  · cases e
  · cases e
    exact frozen_of_row w g j _ _ hg
theorem CO.ty (h : CO base t w v vs) : ∀ k, v.ownBlock = some k → Ty w k t := by
  intro k hk
  rcases h.2 with ⟨e, _⟩ | ⟨g', cap, cur, e, h4, hg, _⟩
  · rw [e] at hk; cases hk
  · rw [e] at hk
    have hk' : g' = k := Option.some.inj hk
    subst hk'
    exact ⟨_, _, hg⟩
theorem CO.cs (h : CO base t w v vs) : CS w v vs := by
  rcases h.2 with ⟨e, hn⟩ | ⟨g, cap, cur, e, h4, hg, h5, h6, _⟩
  · have : vs = [] := List.eq_nil_of_length_eq_zero hn
    subst this
    rw [e]
    exact CS.nil w
  · refine ⟨_, cap, e, h5, by unfold maxLen at h6; omega, (fun h => by cases h), fun _ => ⟨g, 0, rfl, fun i u hu => ?_⟩⟩
    subst e
    rw [Nat.zero_add]
    exact h.cell hu
theorem CO.set {g n c : Nat} (h : CO base t w (.slice (some ⟨g, 0, none⟩) n c) vs) (j : Nat) (u : Value) : CO base t (w.setCell ⟨g, j, none⟩ u) (.slice (some ⟨g, 0, none⟩) n c) (vs.set j u) := by
  have hn : n = vs.length := by
    obtain ⟨a, c', e⟩ := h.form
    cases e
    rfl
  subst hn
  have := (World.ownsRow.stored h j u).1
  unfold CO
  rw [List.length_set]
  exact this
theorem CO.take {g n c : Nat} (h : CO base t w (.slice (some ⟨g, 0, none⟩) n c) vs) {k : Nat} (hk : k ≤ vs.length) : CO base t w (.slice (some ⟨g, 0, none⟩) k c) (vs.take k) := by
  have hl : (vs.take k).length = k := by rw [List.length_take]; omega
  unfold CO
  rw [hl]
  refine ⟨by rw [hl, Nat.mul_one], ?_⟩
  rcases h.2 with ⟨e, _⟩ | ⟨g', cap, cur, e, h4, hg, h5, h6, h7, h8⟩
  · cases e
  · cases e
    refine .inr ⟨g, c, cur, rfl, h4, hg, by omega, h6, h7, ?_⟩
    rw [← h8, List.take_take]
    congr 1
    omega

/-- Cells put behind those of one's own, from whatever slice. -/
theorem run_append_co {P : Program} (st ty : TypeId) (z : Value) (by8 : Nat) (hst : P.underlying st = some (.slice t)) (hinf : (P.info? t).map (fun i => (i.zero, i.size, i.bytes)) = some (some z, 1, by8)) (hz1 : z.cells.size = 1) (hb8 : by8 ≤ 24) {x : Value} (hown : CO base t w v vs) (hx : CS w x us) (h1 : ∀ u ∈ us, u.oneCell' = true) (hlen : vs.length + us.length ≤ 1000000) (hbase : base ≤ w.heap.size) :
    ∃ v' w', (Builtin.append_ #[st, st] ty #[v, x]).run P w = .ok v' w' ∧ CO base t w' v' (vs ++ us) ∧ Stay (fun k => v.ownBlock = some k) w w' ∧ (v'.ownBlock = v.ownBlock ∨ v'.ownBlock = some w.heap.size) := by
  obtain ⟨i0, hi, hz, hsize, hby⟩ := info_parts hinf
  obtain ⟨a0, c, rfl, hc, hm, hn, hr⟩ := hx
  have hbb : (vs.length + us.length) * by8 ≤ 140737488355328 := by
    have : (vs.length + us.length) * by8 ≤ 1000000 * 24 := Nat.mul_le_mul hlen hb8
    omega
  cases a0 with
  | none =>
    obtain rfl := hn rfl
    have hM : us = [] := List.eq_nil_of_length_eq_zero (by omega)
    subst hM
    have h1 := run_append_owned_none (P := P) w base st ty _ i0 1 hst hi v vs.length vs hown
    exact ⟨v, w, h1, by rw [List.append_nil]; exact hown, Stay.refl _ _, .inl rfl⟩
  | some ad =>
    by_cases h0 : us.length = 0
    · have hM : us = [] := List.eq_nil_of_length_eq_zero h0
      subst hM
      obtain ⟨v', w', q1, q2, q3, _, q5⟩ := run_append_own_at (P := P) w base st ty _ i0 z 1 by8 hst hi hz hsize hby hz1 (by decide) v vs.length vs hown ad 0 c [] rfl (fun j u hu => by simp at hu) (fun u hu => by simp at hu) (by unfold maxLen; simp at hlen; omega) (by simpa using hbb) hbase
      exact ⟨v', w', q1, by rw [List.append_nil] at q2; rw [List.append_nil]; exact q2, Stay.grown q3 (fun k hk => hk), q5⟩
    · obtain ⟨g, o, e, hcell⟩ := hr (by omega)
      cases e
      obtain ⟨v', w', q1, q2, q3, _, q5⟩ := run_append_own_at (P := P) w base st ty _ i0 z 1 by8 hst hi hz hsize hby hz1 (by decide) v vs.length vs hown ⟨g, o, none⟩ us.length c us (by rw [Nat.mul_one])
        (fun j u hu => by rw [add_at]; exact hcell j u hu) h1 (by unfold maxLen; omega) hbb hbase
      exact ⟨v', w', q1, by unfold CO; rw [List.length_append]; exact q2, Stay.grown q3 (fun k hk => hk), q5⟩
theorem wpList_append_co {P : Program} {ops : Array Oper} {rest : List Oper} {o : Oper} {a : Act} {Q : Exit → Act → World → Prop} (hgd : o.guard = none) (s y : Operand) (st : TypeId)
    (ho : o.op = .call { callee := .builtin .append, args := #[s, y], argTypes := #[st, st] }) (z : Value) (by8 : Nat) (hst : P.underlying st = some (.slice t)) (hinf : (P.info? t).map (fun i => (i.zero, i.size, i.bytes)) = some (some z, 1, by8)) (hz1 : z.cells.size = 1) (hb8 : by8 ≤ 24) {x : Value} (hs : a.eval s = v) (hy : a.eval y = x) (hown : CO base t w v vs) (hx : CS w x us) (h1 : ∀ u ∈ us, u.oneCell' = true) (hlen : vs.length + us.length ≤ 1000000) (hbase : base ≤ w.heap.size)
    (h : ∀ v' w', CO base t w' v' (vs ++ us) → Stay (fun k => v.ownBlock = some k) w w' → (v'.ownBlock = v.ownBlock ∨ v'.ownBlock = some w.heap.size) → wpList P ops Q rest (a.put o.dst v') w') : wpList P ops Q (o :: rest) a w :=
  wpList_plain hgd fun _ hK => by
    obtain ⟨v', w', hrun, h2, h3, h4⟩ := run_append_co (P := P) st o.type z by8 hst hinf hz1 hb8 hown hx h1 hlen hbase
    unfold Oper.wp execOp
    simp only [ho, resolve, invoke, builtin, Sem.run_bind, Sem.run_pure, Result.andThen_ok, List.map_toArray, List.map_cons, List.map_nil, hs, hy, hrun]
    exact hK _ _ (h v' w' h2 h3 h4)
end


def ints (ns : List Nat) : List Value := ns.map fun (n : Nat) => .int .i64 (n : Int)
theorem len_ints (ns : List Nat) : (ints ns).length = ns.length := by simp [ints]
theorem one_ints (ns : List Nat) : ∀ u ∈ ints ns, u.oneCell' = true := by
  intro u hu
  obtain ⟨s, _, rfl⟩ := List.mem_map.1 hu
  rfl
theorem info_int : (Tryd.prog.info? 3).map (fun i => (i.zero, i.size, i.bytes)) = some (some (.int .i64 0), 1, 8) := by kernel_rfl

/-- A log: its area, where its first record begins, that one's number, how many sectors each has, the error that it answers for good. -/
structure Lg where
  F : Nat
  S : Nat
  a : Nat
  s : Nat
  ns : List Nat
  dead : Nat
def Lg.u (L : Lg) : Nat := L.ns.sum
def Lg.nx (L : Lg) : Nat := L.s + L.ns.length
structure Lg.Ok (n : Nat) (L : Lg) : Prop where
  s2 : 2 ≤ L.S
  fs : L.F + L.S ≤ n
  nn : n ≤ 16384
  al : L.a < L.S
  ul : L.u ≤ L.S
  s1 : 1 ≤ L.s
  nx : L.nx ≤ 1099511627777
  ln : L.ns.length ≤ L.u
def lgC (pd F S a s : Nat) (nv : Value) (u dead : Nat) : Array Value := #[.pointer (some ⟨pd, 0, none⟩), .int .i64 (F : Int), .int .i64 (S : Int), .int .i64 (a : Int), .int .i64 (s : Int), nv, .int .i64 (u : Int), errV dead]
structure LgAt (w : World) (q pd : Nat) (nv : Value) (L : Lg) : Prop where
  hd : w.heap[q]? = some (.cells (lgC pd L.F L.S L.a L.s nv L.u L.dead) 61 (0, 0))
  row : CO 0 3 w nv (ints L.ns)
section
variable {w w' : World} {q pd : Nat} {nv : Value} {L : Lg} {X : Nat → Prop}
theorem LgAt.lt (h : LgAt w q pd nv L) : q < w.heap.size := (Array.getElem?_eq_some_iff.1 h.hd).1
theorem LgAt.ty (h : LgAt w q pd nv L) : Ty w q 61 := ⟨_, _, h.hd⟩
theorem LgAt.stay (h : LgAt w q pd nv L) (hs : Stay X w w') (h1 : ¬ X q) (h2 : ∀ k, nv.ownBlock = some k → ¬ X k) : LgAt w' q pd nv L :=
  ⟨(hs.block q h.lt h1).trans h.hd, h.row.stay hs h2⟩
theorem LgAt.stay0 (h : LgAt w q pd nv L) (hs : Stay (fun _ => False) w w') : LgAt w' q pd nv L := h.stay hs (fun x => x) (fun _ _ x => x)
theorem LgAt.c (h : LgAt w q pd nv L) (j : Nat) : w.cell? ⟨q, j, none⟩ = (lgC pd L.F L.S L.a L.s nv L.u L.dead)[j]? := cell_of_row w q j _ _ _ h.hd
theorem LgAt.c0 (h : LgAt w q pd nv L) : w.cell? ⟨q, 0, none⟩ = some (.pointer (some ⟨pd, 0, none⟩)) := h.c 0
theorem LgAt.c1 (h : LgAt w q pd nv L) : w.cell? ⟨q, 1, none⟩ = some (.int .i64 (L.F : Int)) := h.c 1
theorem LgAt.c2 (h : LgAt w q pd nv L) : w.cell? ⟨q, 2, none⟩ = some (.int .i64 (L.S : Int)) := h.c 2
theorem LgAt.c3 (h : LgAt w q pd nv L) : w.cell? ⟨q, 3, none⟩ = some (.int .i64 (L.a : Int)) := h.c 3
theorem LgAt.c4 (h : LgAt w q pd nv L) : w.cell? ⟨q, 4, none⟩ = some (.int .i64 (L.s : Int)) := h.c 4
theorem LgAt.c5 (h : LgAt w q pd nv L) : w.cell? ⟨q, 5, none⟩ = some nv := h.c 5
theorem LgAt.c6 (h : LgAt w q pd nv L) : w.cell? ⟨q, 6, none⟩ = some (.int .i64 (L.u : Int)) := h.c 6
theorem LgAt.c7 (h : LgAt w q pd nv L) : w.cell? ⟨q, 7, none⟩ = some (errV L.dead) := h.c 7
theorem LgAt.fz (h : LgAt w q pd nv L) (j : Nat) : w.frozen? ⟨q, j, none⟩ = false := frozen_of_row w q j _ _ h.hd
theorem LgAt.form (h : LgAt w q pd nv L) : ∃ a c, nv = .slice a L.ns.length c := by
  obtain ⟨a, c, e⟩ := h.row.form
  rw [len_ints] at e
  exact ⟨a, c, e⟩
theorem LgAt.nq (h : LgAt w q pd nv L) : ∀ k, nv.ownBlock = some k → k ≠ q := fun k hk e => by
  subst e
  exact absurd ((h.row.ty _ hk).uniq h.ty) (by decide)
theorem LgAt.nlt (h : LgAt w q pd nv L) : ∀ k, nv.ownBlock = some k → k < w.heap.size := fun k hk => (h.row.lt k hk).2
/-- The blocks that a log has. -/
def lown (q : Nat) (nv : Value) : Nat → Prop := fun k => k = q ∨ nv.ownBlock = some k
theorem LgAt.olt (h : LgAt w q pd nv L) : ∀ k, lown q nv k → k < w.heap.size := fun k hk => by
  rcases hk with rfl | hk
  · exact h.lt
  · exact h.nlt k hk
theorem LgAt.oty (h : LgAt w q pd nv L) : ∀ k, lown q nv k → Ty w k 61 ∨ Ty w k 3 := fun k hk => by
  rcases hk with rfl | hk
  · exact .inl h.ty
  · exact .inr (h.row.ty k hk)

theorem end_any (h : LgAt w q pd nv L) (hk : L.a + L.u ≤ 1000000) : Calls Tryd.prog 19 #[.pointer (some ⟨q, 0, none⟩)] w fun e w' => e = .returned (.int .i64 ((L.a + L.u : Nat) : Int)) ∧ Stay (fun _ => False) w w' := by
  have c3 := h.c3
  have c6 := h.c6
  obtain ⟨u, hu⟩ : ∃ u, u = L.u := ⟨_, rfl⟩
  obtain ⟨a, ha⟩ : ∃ a, a = L.a := ⟨_, rfl⟩
  rw [← hu] at c6 hk ⊢
  rw [← ha] at c3 hk ⊢
  have HE := Lib.hid (show wrap64 ((a : Int) + (u : Int)) = (a : Int) + (u : Int) by unfold wrap64; omega)
  clear h hu ha
  go_enter Tryd.func19, Tryd.ntmps19
  go_wp2
  go_region
  go_wp2
  go_ret
  exact ⟨by rw [Int.natCast_add, ← HE.out]; rfl, Stay.drew⟩
theorem next_any (h : LgAt w q pd nv L) (hk : L.nx ≤ 2000000000000) : Calls Tryd.prog 25 #[.pointer (some ⟨q, 0, none⟩)] w fun e w' => e = .returned (.int .i64 (L.nx : Int)) ∧ Stay (fun _ => False) w w' := by
  have c4 := h.c4
  have c5 := h.c5
  obtain ⟨va, vc, rfl⟩ := h.form
  unfold Lg.nx at hk ⊢
  obtain ⟨n, hn⟩ : ∃ n, n = L.ns.length := ⟨_, rfl⟩
  obtain ⟨a, ha⟩ : ∃ a, a = L.s := ⟨_, rfl⟩
  rw [← hn] at c5 hk ⊢
  rw [← ha] at c4 hk ⊢
  have HE := Lib.hid (show wrap64 ((a : Int) + (n : Int)) = (a : Int) + (n : Int) by unfold wrap64; omega)
  clear h hn ha
  go_enter Tryd.func25, Tryd.ntmps25
  go_wp2
  go_region
  go_wp2
  go_ret
  exact ⟨by rw [Int.natCast_add, ← HE.out]; rfl, Stay.drew⟩
theorem free_any (h : LgAt w q pd nv L) (hk : L.u ≤ L.S) (hS : L.S ≤ 16384) : Calls Tryd.prog 13 #[.pointer (some ⟨q, 0, none⟩)] w fun e w' => e = .returned (.int .i64 ((L.S - L.u : Nat) : Int)) ∧ Stay (fun _ => False) w w' := by
  have c2 := h.c2
  have c6 := h.c6
  obtain ⟨u, hu⟩ : ∃ u, u = L.u := ⟨_, rfl⟩
  obtain ⟨a, ha⟩ : ∃ a, a = L.S := ⟨_, rfl⟩
  rw [← hu] at c6 hk ⊢
  rw [← ha] at c2 hk hS ⊢
  have HE := Lib.hid (show (a : Int) - (u : Int) = ((a - u : Nat) : Int) by omega)
  clear h hu ha
  go_enter Tryd.func13, Tryd.ntmps13
  go_wp2
  go_region
  go_wp2
  go_ret
  exact ⟨by rw [← HE.out]; rfl, Stay.drew⟩
theorem at_any (h : LgAt w q pd nv L) : Calls Tryd.prog 11 #[.pointer (some ⟨q, 0, none⟩)] w fun e w' => e = .returned (.tuple #[.int .i64 (L.a : Int), .int .i64 (L.s : Int)]) ∧ Stay (fun _ => False) w w' := by
  have c3 := h.c3
  have c4 := h.c4
  clear h
  go_enter Tryd.func11, Tryd.ntmps11
  go_wp2
  go_region
  go_wp2
  go_ret2
  exact ⟨rfl, Stay.drew⟩
theorem stopped_any (h : LgAt w q pd nv L) : Calls Tryd.prog 24 #[.pointer (some ⟨q, 0, none⟩)] w fun e w' => e = .returned (errV L.dead) ∧ w' = w := by
  have c7 := h.c7
  obtain ⟨ev, hev⟩ : ∃ ev, ev = errV L.dead := ⟨_, rfl⟩
  rw [← hev] at c7 ⊢
  clear h hev
  go_enter Tryd.func24, Tryd.ntmps24
  go_wp2
  go_ret
  exact ⟨rfl, rfl⟩
end
theorem sum_snoc (ns : List Nat) (n : Nat) : (ns ++ [n]).sum = ns.sum + n := by simp
theorem ints_snoc (ns : List Nat) (n : Nat) : ints (ns ++ [n]) = ints ns ++ [.int .i64 (n : Int)] := by simp [ints]
set_option maxHeartbeats 1000000 in
theorem take_any (w : World) (q pd : Nat) (nv : Value) (L : Lg) (n : Nat) (h : LgAt w q pd nv L) (hl : L.ns.length ≤ 100000) (hu : L.u + n ≤ 1000000) :
    Calls Tryd.prog 28 #[.pointer (some ⟨q, 0, none⟩), .int .i64 (n : Int)] w fun e w' => (∃ v, e = .returned v) ∧ ∃ nv', LgAt w' q pd nv' { L with ns := L.ns ++ [n] } ∧ Stay (lown q nv) w w' ∧ (nv'.ownBlock = nv.ownBlock ∨ nv'.ownBlock = some (w.heap.size + 1)) := by
  have c5 := h.c5
  have f5 := h.fz 5
  obtain ⟨u, hu0⟩ : ∃ u, u = L.u := ⟨_, rfl⟩
  have HU := Lib.hid hu0
  rw [← hu0] at hu
  have HD := Lib.hid (show w.heap[q]? = some (.cells (lgC pd L.F L.S L.a L.s nv u L.dead) 61 (0, 0)) by rw [hu0]; exact h.hd)
  have HL := Lib.hid h
  have hql := h.lt
  have hrow := h.row
  clear hu0 h
  go_enter Tryd.func28, Tryd.ntmps28
  go_wp2_with (
    at_builtin
    refine wpList_append_co rfl (.tmp 8) (.tmp 10) 59 rfl (.int .i64 0) 8 Tryd.underlying59 info_int rfl (by decide) (v := nv) (x := .slice (some ⟨w.heap.size, 0, none⟩) 1 1) (us := [.int .i64 (n : Int)]) (vs := ints L.ns) rfl rfl (hrow.stay0 (Stay.alloc _ _)) ?hsrc (by intro u hu; simp at hu; subst hu; rfl) (by rw [len_ints, List.length_singleton]; omega) (Nat.zero_le _) ?_
    case hsrc => exact ⟨_, 1, rfl, Nat.le_refl _, by decide, (fun e => by cases e), fun _ => ⟨w.heap.size, 0, rfl, fun i u hu => by rw [Nat.zero_add, cell_of_row _ _ _ _ _ _ (heap_alloc_new w _)]; simpa using hu⟩⟩
    intro v4 w4 ho4 hs4 hb4
    obtain ⟨a4, n4, c4, rfl⟩ : ∃ a n c, v4 = .slice a n c := (by obtain ⟨p, r, e⟩ := ho4.form; exact ⟨p, _, r, e⟩)
    have HO4 := Lib.hid ho4
    have HS4 := Lib.hid (show Stay (fun k => nv.ownBlock = some k) w w4 from (Stay.alloc w _).trans hs4)
    have HB4 := Lib.hid hb4
    have hq4 := (HS4.out.block q hql (fun hk => (HL.out.nq q hk) rfl)).trans HD.out
    have HQ4 := Lib.hid hq4
    have g5 : w4.cell? ⟨q, 5, none⟩ = some nv := cell_of_row w4 q 5 _ _ _ hq4
    have k5 := frozen_of_row w4 q 5 _ _ hq4
    have g6 : w4.cell? ⟨q, 6, none⟩ = some (.int .i64 (u : Int)) := cell_of_row w4 q 6 _ _ _ hq4
    have k6 := frozen_of_row w4 q 6 _ _ hq4
    clear ho4 hs4 hb4 hq4)
  go_end0
  have hu1 : (u : Int) + (n : Int) = ((u + n : Nat) : Int) := by omega
  have hx : ({ L with ns := L.ns ++ [n] } : Lg).u = u + n := by show (L.ns ++ [n]).sum = _; rw [sum_snoc, HU.out]; rfl
  have hh1 := heap_setCell_same w4 q 5 _ _ (.slice a4 n4 c4) HQ4.out
  have hh2 := heap_setCell_same _ q 6 _ _ (.int .i64 ((u : Int) + (n : Int))) hh1
  have hs5 : Stay (fun k => k = q) w4 ((w4.setCell ⟨q, 5, none⟩ (.slice a4 n4 c4)).setCell ⟨q, 6, none⟩ (.int .i64 ((u : Int) + (n : Int)))) := (Stay.setCell (X := fun k => k = q) _ _ _ rfl).trans (Stay.setCell (X := fun k => k = q) _ _ _ rfl)
  have hqv : ∀ k, (Value.slice a4 n4 c4).ownBlock = some k → ¬ k = q := fun k hk e => by
    rcases HB4.out with h | h
    · rw [h] at hk
      exact HL.out.nq k hk e
    · rw [h] at hk
      have := Option.some.inj hk
      simp at this
      omega
  refine ⟨⟨_, rfl⟩, .slice a4 n4 c4, ⟨?_, ?_⟩, (HS4.out.mono (fun k hk => .inr hk)).trans (hs5.mono (fun k hk => .inl hk)), ?_⟩
  · rw [hh2, hx]
    unfold lgC
    rw [← hu1]
    rfl
  · show CO 0 _ _ (.slice a4 n4 c4) (ints (L.ns ++ [n]))
    rw [ints_snoc]
    exact HO4.out.stay hs5 hqv
  · simpa using HB4.out
end Go.Proofs.YthbcgimmbcdnmaaDoor.Lo
