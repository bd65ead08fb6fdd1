/-
  Arrays of bytes by value, over any package: a block that holds one, its parts as slices; loads behind guards and in regions that draw.
-/
import Derived.Test.YtnlknnhibnfhcaaDoorPkC
import Derived.Test.YtnlknnhibnfhcaaDoorClass
namespace Go.Proofs.YtnlknnhibnfhcaaDoor
open Go.RowKit Pk
set_option maxRecDepth 100000

/-- A block of bytes. -/
def BAt (w : World) (g : Nat) (ty : TypeId) (l : List UInt8) : Prop := w.heap[g]? = some (.cells (cellsB l).toArray ty (0, 0))
section
variable {w : World} {g : Nat} {ty : TypeId} {l : List UInt8}
theorem BAt.lt (h : BAt w g ty l) : g < w.heap.size := (Array.getElem?_eq_some_iff.1 h).1
theorem BAt.fr (h : BAt w g ty l) (i : Nat) : w.frozen? ⟨g, i, none⟩ = false := frozen_of_row w g i _ _ h
theorem BAt.c (h : BAt w g ty l) (i : Nat) : w.cell? ⟨g, i, none⟩ = (cellsB l)[i]? := by
  rw [cell_of_row w g i _ _ _ h]
  simp only [List.getElem?_toArray]
theorem BAt.stay {X : Nat → Prop} {w' : World} (h : BAt w g ty l) (hs : Stay X w w') (hx : ¬ X g) : BAt w' g ty l := (hs.block g h.lt hx).trans h
theorem BAt.stay0 {w' : World} (h : BAt w g ty l) (hs : Stay (fun _ => False) w w') : BAt w' g ty l := h.stay hs (fun x => x)
theorem BAt.new (w : World) (ty : TypeId) (l : List UInt8) : BAt (w.alloc (.cells (cellsB l).toArray ty)) w.heap.size ty l := heap_alloc_new w _
/-- A part of it as a slice. -/
theorem BAt.part (h : BAt w g ty l) {i n c : Nat} (hi : i + n ≤ l.length) (hc : n ≤ c) (hm : c ≤ 9223372036854775807) : Slc w (.slice (some ⟨g, i, none⟩) n c) ((l.drop i).take n) := by
  have hl : ((l.drop i).take n).length = n := by rw [List.length_take, List.length_drop]; omega
  refine ⟨_, c, by rw [hl], fun _ => ⟨_, rfl, fun j v hv => ?_⟩, (fun h => by cases h), by omega, hm⟩
  rw [add_at, h.c]
  unfold cellsB at hv ⊢
  rw [List.map_take, List.map_drop, List.getElem?_take] at hv
  split at hv
  · rw [List.getElem?_drop] at hv
    exact hv
  · cases hv
theorem BAt.whole (h : BAt w g ty l) {n : Nat} (hl : l.length = n) (hn : n ≤ 9223372036854775807) : Slc w (.slice (some ⟨g, 0, none⟩) n n) l := by
  have := h.part (i := 0) (n := n) (c := n) (by omega) (Nat.le_refl _) hn
  rw [List.drop_zero, List.take_of_length_le (by omega)] at this
  exact this
end

/-- An array of bytes by value. -/
def arrV (l : List UInt8) : Value := .agg (cellsB l).toArray
/-- A type of arrays of n bytes. -/
structure IsArr (ty : TypeId) (n : Nat) : Prop where
  zero : ∀ w, (zeroValue ty).run Tryd.prog w = .ok (arrV (List.replicate n 0)) w
  info : (Tryd.prog.info? ty).map (·.size) = some n
  under : ∃ d, Tryd.prog.underlying ty = some d ∧ (match d with | .struct _ | .array _ _ => true | _ => false) = true

section
variable {ty : TypeId} {n : Nat}
theorem IsArr.info_of (A : IsArr ty n) {l : List UInt8} (hl : l.length = n) : (Tryd.prog.info? ty).map (·.size) = some (cellsB l).toArray.size := by rw [List.size_toArray, length_cellsB, hl]; exact A.info
theorem IsArr.run_load (A : IsArr ty n) {w : World} {g : Nat} {l : List UInt8} (hl : l.length = n) (hg : BAt w g ty l) : (loadVar ty ⟨g, 0, none⟩).run Tryd.prog w = .ok (arrV l) w := by
  obtain ⟨d, hu, hd⟩ := A.under
  exact run_loadVar_mid (P := Tryd.prog) w g 0 ty ty (cellsB l).toArray (cellsB l).toArray (0, 0) d hg hu (by cases d <;> first | rfl | cases hd) (A.info_of hl) (fun j _ => by rw [Nat.zero_add])
theorem IsArr.load (A : IsArr ty n) {ops : Array Oper} {rest : List Oper} {o : Oper} {a : Act} {w : World} {Q : Exit → Act → World → Prop} (hgd : o.guard = none) (x : Operand) (ho : o.op = .load ty x)
    (g : Nat) (hx : a.eval x = .pointer (some ⟨g, 0, none⟩)) (l : List UInt8) (hl : l.length = n) (hg : BAt w g ty l)
    (hn : wpList Tryd.prog ops Q rest (a.put o.dst (arrV l)) w) : wpList Tryd.prog ops Q (o :: rest) a w := by
  obtain ⟨d, hu, hd⟩ := A.under
  exact wpList_load_mid hgd ty x ho g 0 hx ty (cellsB l).toArray (cellsB l).toArray (0, 0) d hg hu (by cases d <;> first | rfl | cases hd) (A.info_of hl) (fun j _ => by rw [Nat.zero_add]) hn
theorem splice_full (h0 h : List UInt8) (hl : h.length = h0.length) : splice (cellsB h0) 0 (cellsB h) = cellsB h := by
  unfold splice
  rw [List.take_zero, List.nil_append, Nat.zero_add, length_cellsB, hl, List.drop_eq_nil_of_le (by rw [length_cellsB]; exact Nat.le_refl _), List.append_nil]
theorem IsArr.store (A : IsArr ty n) {ops : Array Oper} {rest : List Oper} {o : Oper} {a : Act} {w : World} {Q : Exit → Act → World → Prop} (hgd : o.guard = none) (x y : Operand) (ho : o.op = .store ty x y)
    (g : Nat) (hx : a.eval x = .pointer (some ⟨g, 0, none⟩)) (h0 h : List UInt8) (hy : a.eval y = arrV h) (hl0 : h0.length = n) (hl : h.length = n) (hg : BAt w g ty h0)
    (hn : ∀ w', BAt w' g ty h → Stay (· = g) w w' → wpList Tryd.prog ops Q rest (a.put o.dst undef) w') : wpList Tryd.prog ops Q (o :: rest) a w :=
  wpList_store_mid hgd ty x y ho g 0 hx ty (cellsB h0) (cellsB h) hy hg (by rw [length_cellsB, hl]; exact A.info) (by rw [length_cellsB, length_cellsB, hl, hl0]; omega) (oneCell_cellsB _)
    (fun w' h1 h2 => hn w' (by rw [splice_full h0 h (by omega)] at h1; exact h1) h2)
theorem IsArr.alloc (A : IsArr ty n) {ops : Array Oper} {rest : List Oper} {o : Oper} {a : Act} {w : World} {Q : Exit → Act → World → Prop} (hgd : o.guard = none) (ho : o.op = .alloc ty)
    (hn : wpList Tryd.prog ops Q rest (a.put o.dst (.pointer (some ⟨w.heap.size, 0, none⟩))) (w.alloc (.cells (cellsB (List.replicate n 0)).toArray ty))) : wpList Tryd.prog ops Q (o :: rest) a w :=
  wpList_alloc_at hgd ty ho _ (A.zero _) hn
end

/-- A whole array or struct loaded, as a step of a region in the class D, behind a guard that holds. -/
theorem quiet_loadG {P : Program} {D : World → Prop} {ops : Array Oper} {rest : List Oper} {o : Oper} {a : Act} {Q : Act → Prop} (hgd : Region.wanted o (yielded ops a.tmps) = true) (ty : TypeId) (x : Operand) (ho : o.op = .load ty x) (ad : Addr) (hx : a.eval x = .pointer (some ad)) (v : Value)
    (hl : ∀ i : InC D, (loadVar ty ad).run P i.w = .ok v i.w) (h : wpQuiet P ops (fun w' => ∃ i : InC D, w' = i.w) Q rest (a.put o.dst v)) : wpQuiet P ops (fun w' => ∃ i : InC D, w' = i.w) Q (o :: rest) a := by
  refine wpQuiet_step fun K hK => ?_
  rw [if_pos hgd]
  refine ⟨v, fun w' hw => ?_, hK _ h⟩
  obtain ⟨i, rfl⟩ := hw
  unfold Oper.quietAt execOp
  simp only [ho, hx, Instr.loadAt, Instr.sureAddr, Sem.run_bind, Sem.run_pure, Result.andThen_ok, hl i]
  exact ⟨rfl, rfl⟩
theorem wpList_wanted {P : Program} {ops : Array Oper} {rest : List Oper} {o : Oper} {a : Act} {w : World} {Q : Exit → Act → World → Prop} (hw : Region.wanted o (yielded ops a.tmps) = true) (h : o.wp P a w (wpList P ops Q rest) Q) : wpList P ops Q (o :: rest) a w := by
  unfold wpList
  rw [if_pos hw]
  exact .inl h
/-- A whole array or struct loaded, whatever holds of the guard, by its run. -/
theorem wpList_load_run {P : Program} {ops : Array Oper} {rest : List Oper} {o : Oper} {a : Act} {w : World} {Q : Exit → Act → World → Prop} (hw : Region.wanted o (yielded ops a.tmps) = true) (ty : TypeId) (x : Operand) (ho : o.op = .load ty x)
    (ad : Addr) (hx : a.eval x = .pointer (some ad)) (v : Value) (hl : (loadVar ty ad).run P w = .ok v w)
    (hn : wpList P ops Q rest (a.put o.dst v) w) : wpList P ops Q (o :: rest) a w := by
  refine wpList_wanted hw ?_
  unfold Oper.wp execOp
  simp only [ho, hx, Instr.loadAt, Instr.sureAddr, Sem.run_bind, Sem.run_pure, Result.andThen_ok, hl]
  exact hn

end Go.Proofs.YtnlknnhibnfhcaaDoor
