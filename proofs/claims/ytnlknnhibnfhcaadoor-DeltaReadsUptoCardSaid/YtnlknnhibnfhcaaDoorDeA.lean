/-
  delta: parts in memory: slices of parts that are read, and one's own ones that are appended to; blocks held against each other.
-/
import Derived.Test.YtnlknnhibnfhcaaDoorDeP
import Derived.Test.YtnlknnhibnfhcaaDoorArrP
import Derived.Test.YtnlknnhibnfhcaaDoorPkF
import Derived.Test.YtnlknnhibnfhcaaDoorPkT
import Derived.Stop.BytesEq
namespace Go.Proofs.YtnlknnhibnfhcaaDoor.De
open Go.RowKit Pk
set_option maxRecDepth 100000

section
variable {P : Program}
theorem run_loadVar_at (w : World) (ad : Addr) (ty : TypeId) (cs : List Value) (d : TypeDesc)
    (hu : P.underlying ty = some d) (hd : (match d with | .struct _ | .array _ _ => true | _ => false) = true) (hi : (P.info? ty).map (·.size) = some cs.length)
    (hcs : ∀ j v, cs[j]? = some v → w.cell? (ad.add j) = some v) :
    (loadVar ty ad).run P w = .ok (.agg cs.toArray) w := by
  have hl : (loadCells ad cs.length).run P w = .ok cs.toArray w := run_loadCells_list (P := P) w ad cs hcs
  cases hq : P.info? ty with
  | none => simp [hq] at hi
  | some i =>
    have hs : i.size = cs.length := by simpa [hq] using hi
    have hagg : (isAgg ty).run P w = .ok true w := by
      unfold isAgg
      rw [Sem.run_bind, run_underlying hu w]
      cases d <;> simp_all
    simp [loadVar, Sem.run_bind, hagg, sizeOf, typeInfo, hq, hs, hl]
end

theorem zero_64 (w : World) : (zeroValue 23).run Tryd.prog w = .ok (arrV (List.replicate 64 0)) w := by kernel_rfl
theorem info_64 : (Tryd.prog.info? 23).map (·.size) = some 64 := by kernel_rfl
theorem arr_64 : IsArr 23 64 := ⟨zero_64, info_64, _, Tryd.underlying23, rfl⟩
theorem under_64 : Tryd.prog.underlying 23 = some (.array (Tryd.prog.arrayLen 23) (Tryd.prog.elem 23)) := by kernel_rfl
theorem len_64 : Tryd.prog.arrayLen 23 = 64 := by kernel_rfl
theorem size_64 (w : World) : (sizeOf (Tryd.prog.elem 23)).run Tryd.prog w = .ok 1 w := by kernel_rfl
theorem size_u8' (w : World) : (sizeOf 5).run Tryd.prog w = .ok 1 w := by kernel_rfl
theorem eq_blk (w : World) (p q : List UInt8) (hp : p.length = 64) (hq : q.length = 64) : (Op.equalIn 10000 23 (arrV p) (arrV q)).run Tryd.prog w = .ok (p == q) w :=
  run_equalIn_bytes (P := Tryd.prog) w 9998 23 5 64 Tryd.underlying23 Tryd.underlying5 size_u8' p q hp hq
/-- A part of a block as a slice. -/
theorem run_part (w : World) (g : Nat) (i j : Int) (h0 : 0 ≤ i) (hij : i ≤ j) (hj : j ≤ 64) :
    (Instr.sliceAt 23 (.pointer (some ⟨g, 0, none⟩)) (some (.int .i64 i)) (some (.int .i64 j)) none).run Tryd.prog w = .ok (if (64 - i.toNat = 0) then .slice (some ⟨g, 0, none⟩) 0 0 else .slice (some ⟨g, i.toNat, none⟩) (j.toNat - i.toNat) (64 - i.toNat)) w := by
  rw [run_sliceAt_array_lh w 23 ⟨g, 0, none⟩ under_64 .i64 .i64 i j h0 hij (by rw [len_64]; omega), size_64, len_64]
  simp only [Result.andThen, slicedAt, Nat.mul_one]
  split
  · rw [show j.toNat - i.toNat = 0 by omega, show 64 - i.toNat = 0 by omega, if_pos rfl]
  · rw [add_at, Nat.zero_add, if_neg (by omega)]

/-- A part in memory, and the slice of its bytes. -/
structure Po where
  p : Pt
  x : Value
def poC (q : Po) : List Value := [.bool q.p.cp, .int .i64 q.p.f, .int .i64 q.p.n, q.x]
def poV (q : Po) : Value := .agg (poC q).toArray
theorem length_poC (q : Po) : (poC q).length = 4 := rfl
def poRows (L : List Po) : List Value := L.flatMap poC
theorem poRows_snoc (L : List Po) (q : Po) : poRows (L ++ [q]) = poRows L ++ poC q := by simp [poRows]
theorem length_poRows : ∀ L : List Po, (poRows L).length = L.length * 4
  | [] => rfl
  | q :: L => by
    have := length_poRows L
    unfold poRows at this ⊢
    rw [List.flatMap_cons, List.length_append, this, length_poC, List.length_cons]
    omega
theorem poRows_get {q : Po} {j : Nat} (hj : j < 4) : ∀ (L : List Po) (i : Nat), L[i]? = some q → (poRows L)[i * 4 + j]? = (poC q)[j]?
  | [], i, h => by simp at h
  | x :: L, 0, h => by
    simp at h
    subst h
    unfold poRows
    rw [List.flatMap_cons, List.getElem?_append_left (by rw [length_poC]; omega), Nat.zero_mul, Nat.zero_add]
  | x :: L, i + 1, h => by
    have ih := poRows_get hj L i (by simpa using h)
    unfold poRows at ih ⊢
    rw [List.flatMap_cons, List.getElem?_append_right (by rw [length_poC]; omega), length_poC, ← ih]
    congr 1
    omega
/-- Numbers of 64 bits. -/
structure I64q (q : Pt) : Prop where
  f1 : -9223372036854775808 ≤ q.f
  f2 : q.f ≤ 9223372036854775807
  n1 : -9223372036854775808 ≤ q.n
  n2 : q.n ≤ 9223372036854775807
theorem I64q.tell (b : List UInt8) : I64q (tellP b) := ⟨by simp only [tellP]; omega, by simp only [tellP]; omega, by simp only [tellP]; omega, by simp only [tellP]; omega⟩
theorem I64q.copy {f n : Nat} (hf : f ≤ 64) (hn : n ≤ 64) : I64q (copyP f n) := ⟨by simp only [copyP]; omega, by simp only [copyP]; omega, by simp only [copyP]; omega, by simp only [copyP]; omega⟩

/-- A slice that reads as parts. -/
structure PsAt (w : World) (v : Value) (L : List Po) : Prop where
  ex : ∃ a0 c, v = .slice a0 L.length c ∧ L.length ≤ c ∧ c ≤ 9223372036854775807 ∧ (0 < L.length → ∃ g o, a0 = some ⟨g, o, none⟩ ∧ ∀ i q, L[i]? = some q → ∀ j u, (poC q)[j]? = some u → w.cell? ⟨g, o + i * 4 + j, none⟩ = some u)
  slc : ∀ q ∈ L, Slc w q.x q.p.b
  i64 : ∀ q ∈ L, I64q q.p
theorem PsAt.stay0 {w w' : World} {v : Value} {L : List Po} (h : PsAt w v L) (hs : Stay (fun _ => False) w w') : PsAt w' v L := by
  obtain ⟨a0, c, e, h1, h2, h3⟩ := h.ex
  refine ⟨⟨a0, c, e, h1, h2, fun h0 => ?_⟩, fun q hq => (h.slc q hq).stay0 hs, h.i64⟩
  obtain ⟨g, o, e, hc⟩ := h3 h0
  exact ⟨g, o, e, fun i q hq j u hu => hs.cell (hc i q hq j u hu) (fun x => x)⟩
theorem PsAt.nil (w : World) : PsAt w (.slice none 0 0) [] := ⟨⟨none, 0, rfl, Nat.le_refl _, by decide, fun h => absurd h (Nat.lt_irrefl 0)⟩, fun _ hq => (List.not_mem_nil hq).elim, fun _ hq => (List.not_mem_nil hq).elim⟩
theorem PsAt.form {w : World} {v : Value} {L : List Po} (h : PsAt w v L) : ∃ a c, v = .slice a L.length c := by
  obtain ⟨a0, c, e, _⟩ := h.ex
  exact ⟨a0, c, e⟩

/-- The part of no bytes, by value. -/
def zeroV : Value := .agg #[.bool false, .int .i64 0, .int .i64 0, .slice none 0 0]
/-- A type of parts. -/
structure IsPt (ty : TypeId) : Prop where
  zero : ∀ w, (zeroValue ty).run Tryd.prog w = .ok zeroV w
  info : (Tryd.prog.info? ty).map (fun i => (i.zero, i.size, i.bytes)) = some (some zeroV, 4, 48)
  under : ∃ d, Tryd.prog.underlying ty = some d ∧ (match d with | .struct _ | .array _ _ => true | _ => false) = true
theorem IsPt.size {ty : TypeId} (A : IsPt ty) : (Tryd.prog.info? ty).map (·.size) = some 4 := by
  obtain ⟨i0, hi, _, h, _⟩ := info_parts A.info
  rw [hi]
  simp [h]
theorem pt_prog : IsPt 49 := ⟨fun w => by kernel_rfl, by kernel_rfl, _, Tryd.underlying49, rfl⟩
theorem pt_ref : IsPt 60 := ⟨fun w => by kernel_rfl, by kernel_rfl, _, Tryd.underlying60, rfl⟩
/-- One of them as a whole. -/
theorem IsPt.run_load {ty : TypeId} (A : IsPt ty) {w : World} {g o : Nat} {q : Po} (hc : ∀ j u, (poC q)[j]? = some u → w.cell? ⟨g, o + j, none⟩ = some u) : (loadVar ty ⟨g, o, none⟩).run Tryd.prog w = .ok (poV q) w := by
  obtain ⟨d, hu, hd⟩ := A.under
  exact run_loadVar_at w ⟨g, o, none⟩ ty (poC q) d hu (by cases d <;> first | rfl | cases hd) A.size (fun j v hv => by rw [add_at]; exact hc j v hv)

/-- Parts of one's own: those that the slice is of, and their bytes beside it. -/
structure PsOwn (ty : TypeId) (base : Nat) (w : World) (v : Value) (L : List Po) : Prop where
  row : w.ownsRow base ty 4 v L.length (poRows L)
  slc : ∀ q ∈ L, Slc w q.x q.p.b
  i64 : ∀ q ∈ L, I64q q.p
  ne : ∀ q ∈ L, 0 < q.p.b.length → q.x.ownBlock ≠ v.ownBlock
section
variable {ty : TypeId} {base : Nat} {w : World} {v : Value} {L : List Po}
theorem PsOwn.nil (ty : TypeId) (base : Nat) (w : World) : PsOwn ty base w (.slice none 0 0) [] := ⟨World.ownsRow_nil w base _ _, fun _ hq => (List.not_mem_nil hq).elim, fun _ hq => (List.not_mem_nil hq).elim, fun _ hq => (List.not_mem_nil hq).elim⟩
theorem PsOwn.at (h : PsOwn ty base w v L) : PsAt w v L := by
  refine ⟨?_, h.slc, h.i64⟩
  have hc := fun g hg => World.ownsRow.cells (g := g) h.row hg
  rcases h.row.2 with ⟨e, hn⟩ | ⟨g, cap, cur, e, _, _, h1, h2, _⟩
  · rw [e, hn]
    exact ⟨none, 0, rfl, Nat.le_refl _, by decide, fun h => absurd h (Nat.lt_irrefl 0)⟩
  · refine ⟨_, cap, e, h1, by unfold maxLen at h2; omega, fun _ => ⟨g, 0, rfl, fun i q hq j u hu => ?_⟩⟩
    subst e
    have hj : j < 4 := (List.getElem?_eq_some_iff.1 hu).1
    have := hc g rfl (i * 4 + j) u (by rw [poRows_get hj L i hq]; exact hu)
    rw [add_at] at this
    rw [show 0 + i * 4 + j = 0 + (i * 4 + j) by omega]
    exact this
theorem PsOwn.form (h : PsOwn ty base w v L) : ∃ a c, v = .slice a L.length c := h.at.form
theorem PsOwn.lt (h : PsOwn ty base w v L) : ∀ k, v.ownBlock = some k → base ≤ k ∧ k < w.heap.size := World.ownsRow.lt h.row
theorem PsOwn.stay {X : Nat → Prop} {w' : World} (h : PsOwn ty base w v L) (hs : Stay X w w') (h1 : ∀ k, v.ownBlock = some k → ¬ X k) (h2 : ∀ q ∈ L, 0 < q.p.b.length → ∀ k, q.x.ownBlock = some k → ¬ X k) : PsOwn ty base w' v L := by
  refine ⟨⟨h.row.1, ?_⟩, fun q hq => ?_, h.i64, h.ne⟩
  · rcases h.row.2 with h' | ⟨g, cap, cur, rfl, hb, hg, r⟩
    · exact .inl h'
    · exact .inr ⟨g, cap, cur, rfl, hb, (hs.block g (Array.getElem?_eq_some_iff.1 hg).1 (h1 g rfl)).trans hg, r⟩
  · obtain ⟨a0, c, e, hr, hn⟩ := h.slc q hq
    refine ⟨a0, c, e, hr.stay hs (fun h0 ad ha => h2 q hq h0 ad.block (by rw [e, ha]; rfl)), hn⟩
theorem PsOwn.stay0 {w' : World} (h : PsOwn ty base w v L) (hs : Stay (fun _ => False) w w') : PsOwn ty base w' v L := h.stay hs (fun _ _ x => x) (fun _ _ _ _ _ x => x)

/-- A part appended. -/
theorem append_po (A : IsPt ty) {t : TypeId} (ht : Tryd.prog.underlying t = some (.slice ty)) {ops : Array Oper} {rest : List Oper} {o : Oper} {a : Act} {Q : Exit → Act → World → Prop} (hgd : o.guard = none) (s x : Operand)
    (ho : o.op = .call { callee := .builtin .append, args := #[s, x], argTypes := #[t, t] }) (hs : a.eval s = v) (g : Nat) (hx : a.eval x = .slice (some ⟨g, 0, none⟩) 1 1) (q : Po)
    (hm : PsOwn ty base w v L) (hq : ∀ j u, (poC q)[j]? = some u → w.cell? ⟨g, j, none⟩ = some u) (hsl : Slc w q.x q.p.b) (hi : I64q q.p) (hne : 0 < q.p.b.length → q.x.ownBlock ≠ v.ownBlock) (hone : ∀ u ∈ poC q, u.oneCell' = true) (hn : (L.length + 1) * 48 ≤ 140737488355328) (hb : base ≤ w.heap.size)
    (h : ∀ v' w', PsOwn ty base w' v' (L ++ [q]) → Stay (fun k => v.ownBlock = some k) w w' → (v'.ownBlock = v.ownBlock ∨ v'.ownBlock = some w.heap.size) → wpList Tryd.prog ops Q rest (a.put o.dst v') w') : wpList Tryd.prog ops Q (o :: rest) a w := by
  obtain ⟨i0, hi0, hz0, hz1, hz2⟩ := info_parts A.info
  refine wpList_append_own_at (P := Tryd.prog) w hgd s x t ho base ty i0 _ 4 48 ht hi0 hz0 hz1 hz2 rfl (by decide) v L.length (poRows L) hs hm.row ⟨g, 0, none⟩ 1 1 (poC q) hx rfl
    (fun j u hu => ?_) hone (by unfold maxLen; omega) hn hb (fun v' w' h1 h2 _ h4 => ?_)
  · rw [add_at, Nat.zero_add]
    exact hq j u hu
  · have hst : Stay (fun k => v.ownBlock = some k) w w' := Stay.grown h2 (fun k hk => hk)
    have hold : ∀ z ∈ L ++ [q], Slc w z.x z.p.b ∧ I64q z.p ∧ (0 < z.p.b.length → z.x.ownBlock ≠ v.ownBlock) := by
      intro z hz
      rcases List.mem_append.1 hz with hz | hz
      · exact ⟨hm.slc z hz, hm.i64 z hz, hm.ne z hz⟩
      · obtain rfl := List.mem_singleton.1 hz
        exact ⟨hsl, hi, hne⟩
    refine h v' w' ⟨by rw [List.length_append, poRows_snoc]; exact h1, fun z hz => ?_, fun z hz => (hold z hz).2.1, fun z hz h0 e => ?_⟩ hst h4
    · obtain ⟨h5, _, h7⟩ := hold z hz
      obtain ⟨a0, c, e, hr, hn2⟩ := id h5
      refine ⟨a0, c, e, hr.stay hst (fun h0 ad ha hv => h7 h0 ?_), hn2⟩
      rw [e, ha, hv]
      rfl
    · obtain ⟨h5, _, h7⟩ := hold z hz
      rcases h4 with h4 | h4
      · exact h7 h0 (e.trans h4)
      · have := h5.blk_lt h0 _ (e.trans h4)
        omega
end
theorem one_po (q : Po) (a0 : Option Addr) (n c : Nat) (h : q.x = .slice a0 n c) : ∀ u ∈ poC q, u.oneCell' = true := by
  intro u hu
  unfold poC at hu
  rw [h] at hu
  simp at hu
  rcases hu with rfl | rfl | rfl | rfl <;> rfl
end Go.Proofs.YtnlknnhibnfhcaaDoor.De
