/-
  pack: many things: what they have laid; how one is taken off; loads where cells are known.
-/
import Derived.Test.YtjaflioamjklfaaPkTake
import Derived.Stop.BytesEq
namespace Go.Proofs.Ytjaflioamjklfaa.Pk
open Go.RowKit
set_option maxRecDepth 100000

section
variable {P : Program}
/-- A struct or an array read where its cells are known. -/
theorem run_loadVar_at (w : World) (ad : Addr) (ty : TypeId) (cs : List Value) (d : TypeDesc)
    (hu : P.underlying ty = some d) (hd : (match d with | .struct _ | .array _ _ => true | _ => false) = true) (hi : (P.info? ty).map (·.size) = some cs.length)
    (hcs : ∀ j v, cs[j]? = some v → w.cell? (ad.add j) = some v) :
    (loadVar ty ad).run P w = .ok (.agg cs.toArray) w := by
  have hl : (loadCells ad cs.length).run P w = .ok cs.toArray w := run_loadCells_list (P := P) w ad cs hcs
  cases hq : P.info? ty with
  | none => simp [hq] at hi
  | some i =>
    have hs : i.size = cs.length := by simpa [hq] using hi
    have hagg : (isAgg ty).run P w = .ok true w := by
      unfold isAgg
      rw [Sem.run_bind, run_underlying hu w]
      cases d <;> simp_all
    simp [loadVar, Sem.run_bind, hagg, sizeOf, typeInfo, hq, hs, hl]
theorem wpList_load_at {ops : Array Oper} {rest : List Oper} {o : Oper} {a : Act} {w : World} {Q : Exit → Act → World → Prop} (hgd : o.guard = none) (ty : TypeId) (x : Operand) (ho : o.op = .load ty x)
    (ad : Addr) (hx : a.eval x = .pointer (some ad)) (cs : List Value) (d : TypeDesc)
    (hu : P.underlying ty = some d) (hd : (match d with | .struct _ | .array _ _ => true | _ => false) = true) (hi : (P.info? ty).map (·.size) = some cs.length)
    (hcs : ∀ j v, cs[j]? = some v → w.cell? (ad.add j) = some v)
    (h : wpList P ops Q rest (a.put o.dst (.agg cs.toArray)) w) : wpList P ops Q (o :: rest) a w :=
  wpList_plain hgd fun _ hK => by
    unfold Oper.wp execOp
    simp only [ho, hx, Instr.loadAt, Instr.sureAddr, Sem.run_bind, Sem.run_pure, Result.andThen_ok, run_loadVar_at w ad ty cs d hu hd hi hcs]
    exact hK _ _ h
end

theorem info_thing : (Try.prog.info? 30).map (·.size) = some 35 := by kernel_rfl

theorem info_cells {t : Th} (hp : t.pr.length = 32) : (Try.prog.info? 30).map (·.size) = some t.cells.length := by
  rw [info_thing]
  simp [Th.cells, thingC, length_cellsB, hp]

/-- The bytes of many things. -/
def laidB (L : List Th) : List UInt8 := L.flatMap fun t => thingB t.k t.n t.b t.pr

def Th.laid (t : Th) : List UInt8 := thingB t.k t.n t.b t.pr
theorem intB_len (n : Int) : (intB n).length ≤ 10 := by
  have h2 := len_spell (-1 - n).toNat
  have h3 := len_spell n.toNat
  by_cases h : n < 0
  · rw [show intB n = boolB true ++ spellB (-1 - n).toNat from if_pos h, List.length_append]
    exact Nat.add_le_add (Nat.le_refl 1) h2
  · rw [show intB n = boolB false ++ spellB n.toNat from if_neg h, List.length_append]
    exact Nat.add_le_add (Nat.le_refl 1) h3
theorem Th.laid_len (t : Th) (hp : t.pr.length = 32) : t.laid.length ≤ t.b.length + 32 := by
  unfold Th.laid thingB
  have h1 := len_spell (IntKind.u64.wrap t.n).toNat
  have h4 := len_spell t.b.length
  by_cases k0 : kindOf t.k = 0
  · rw [if_pos k0]; omega
  rw [if_neg k0]
  by_cases k1 : kindOf t.k = 1
  · rw [if_pos k1]
    exact Nat.le_trans (intB_len t.n) (by omega)
  rw [if_neg k1]
  by_cases k2 : kindOf t.k = 2
  · rw [if_pos k2]; unfold boolB; simp only [List.length_cons, List.length_nil]; omega
  rw [if_neg k2]
  by_cases k3 : kindOf t.k = 3 ∨ kindOf t.k = 4
  · rw [if_pos k3]; unfold bytesB; rw [List.length_append]; omega
  rw [if_neg k3]; omega
theorem laidB_succ {L : List Th} {i : Nat} {t : Th} (h : L[i]? = some t) : laidB (L.take (i + 1)) = laidB (L.take i) ++ t.laid := by
  rw [List.take_add_one, h]
  simp [laidB, Th.laid]
theorem laidB_len {L : List Th} (hp : ∀ t ∈ L, t.pr.length = 32) (hb : ∀ t ∈ L, t.b.length ≤ 1048576) : ∀ i, (laidB (L.take i)).length ≤ i * 1048608
  | 0 => by simp [laidB]
  | i + 1 => by
    have ih := laidB_len hp hb i
    cases h : L[i]? with
    | none =>
      rw [List.take_add_one, h, Option.toList_none, List.append_nil]
      exact Nat.le_trans ih (Nat.mul_le_mul_right _ (Nat.le_succ i))
    | some t =>
      have hm := List.mem_of_getElem? h
      rw [laidB_succ h, List.length_append]
      have h1 := t.laid_len (hp t hm)
      have h2 := hb t hm
      omega

theorem laidB_drop {L : List Th} {i j : Nat} {t : Th} (h : L[j]? = some t) (hj : j < i) : laidB ((L.take i).drop j) = t.laid ++ laidB ((L.take i).drop (j + 1)) := by
  have h1 : (L.take i)[j]? = some t := by rw [List.getElem?_take_of_lt hj]; exact h
  obtain ⟨h2, h3⟩ := List.getElem?_eq_some_iff.1 h1
  rw [List.drop_eq_getElem_cons h2, h3]
  simp [laidB, Th.laid]

theorem laid0 {t : Th} (h : kindOf t.k = 0) : t.laid = spellB (IntKind.u64.wrap t.n).toNat := by unfold Th.laid thingB; rw [if_pos h]
theorem laid1 {t : Th} (h : kindOf t.k = 1) : t.laid = intB t.n := by unfold Th.laid thingB; rw [if_neg (by omega), if_pos h]
theorem laid2 {t : Th} (h : kindOf t.k = 2) : t.laid = boolB (decide (0 < t.n)) := by unfold Th.laid thingB; rw [if_neg (by omega), if_neg (by omega), if_pos h]
theorem laid3 {t : Th} (h : kindOf t.k = 3) : t.laid = bytesB t.b := by unfold Th.laid thingB; rw [if_neg (by omega), if_neg (by omega), if_neg (by omega), if_pos (by omega)]
theorem laid4 {t : Th} (h : kindOf t.k = 4) : t.laid = bytesB t.b := by unfold Th.laid thingB; rw [if_neg (by omega), if_neg (by omega), if_neg (by omega), if_pos (by omega)]
theorem laid5 {t : Th} (h : kindOf t.k = 5) : t.laid = t.pr := by unfold Th.laid thingB; rw [if_neg (by omega), if_neg (by omega), if_neg (by omega), if_neg (by omega)]
theorem six (k : Int) : kindOf k = 0 ∨ kindOf k = 1 ∨ kindOf k = 2 ∨ kindOf k = 3 ∨ kindOf k = 4 ∨ kindOf k = 5 := by
  have := kindOf_range k
  omega

theorem tk0 (X : Nat → Prop) (w : World) (p : Nat) (t : Th) (rest : List UInt8) (hk : t.laid = spellB (IntKind.u64.wrap t.n).toNat) (h : RdAt X w p ⟨t.laid ++ rest, 0⟩) :
    Calls Try.prog 12 #[.pointer (some ⟨p, 0, none⟩), .int .u64 18446744073709551615] w fun e w' => e = .returned (.int .u64 (IntKind.u64.wrap t.n)) ∧ RdAt X w' p ⟨rest, 0⟩ ∧ Stay (fun k => k = p) w w' := by
  obtain ⟨hu0, hu1⟩ := u64_range t.n
  rw [hk] at h
  have := uint_back X w p (IntKind.u64.wrap t.n).toNat 18446744073709551615 rfl rest (by omega) h
  rw [Int.toNat_of_nonneg hu0] at this
  exact this
theorem tk1 (X : Nat → Prop) (w w0 : World) (p : Nat) (t : Th) (rest : List UInt8) (hok : t.Ok w0) (hk : t.laid = intB t.n) (h : RdAt X w p ⟨t.laid ++ rest, 0⟩) :
    Calls Try.prog 13 #[.pointer (some ⟨p, 0, none⟩)] w fun e w' => e = .returned (.int .i64 t.n) ∧ RdAt X w' p ⟨rest, 0⟩ ∧ Stay (fun k => k = p) w w' := by
  rw [hk] at h
  exact int_back X w p t.n rest hok.n1 hok.n2 h
theorem tk2 (X : Nat → Prop) (w : World) (p : Nat) (t : Th) (rest : List UInt8) (hk : t.laid = boolB (decide (0 < t.n))) (h : RdAt X w p ⟨t.laid ++ rest, 0⟩) :
    Calls Try.prog 14 #[.pointer (some ⟨p, 0, none⟩)] w fun e w' => e = .returned (.bool (decide (0 < t.n))) ∧ RdAt X w' p ⟨rest, 0⟩ ∧ Stay (fun k => k = p) w w' := by
  rw [hk] at h
  exact bool_back X w p _ rest h
theorem tk3 (X : Nat → Prop) (w : World) (p : Nat) (t : Th) (rest : List UInt8) (hl : (t.laid ++ rest).length ≤ 140737488355328) (hk : t.laid = bytesB t.b) (h : RdAt X w p ⟨t.laid ++ rest, 0⟩) :
    Calls Try.prog 15 #[.pointer (some ⟨p, 0, none⟩), .int .i64 t.b.length] w fun e w' => e = .returned (.string ⟨t.b.toArray⟩) ∧ RdAt X w' p ⟨rest, 0⟩ ∧ Stay (fun k => k = p) w w' := by
  rw [hk] at h hl
  exact text_back X w p t.b rest hl h
theorem tk4 (X : Nat → Prop) (w : World) (p : Nat) (t : Th) (rest : List UInt8) (hl : (t.laid ++ rest).length ≤ 140737488355328) (hk : t.laid = bytesB t.b) (h : RdAt X w p ⟨t.laid ++ rest, 0⟩) :
    Calls Try.prog 16 #[.pointer (some ⟨p, 0, none⟩), .int .i64 t.b.length] w fun e w' => (∃ a c, e = .returned (.slice a t.b.length c) ∧ Slc w' (.slice a t.b.length c) t.b) ∧ RdAt X w' p ⟨rest, 0⟩ ∧ Stay (fun k => k = p) w w' := by
  rw [hk] at h hl
  refine (bytes_back X w p t.b rest hl h).mono ?_
  rintro e w' ⟨⟨v, rfl, how⟩, h2, h3⟩
  obtain ⟨a, c, rfl⟩ := how.form
  exact ⟨⟨a, c, rfl, how.slc⟩, h2, h3⟩
theorem tk5 (X : Nat → Prop) (w w0 : World) (p : Nat) (t : Th) (rest : List UInt8) (hok : t.Ok w0) (hk : t.laid = t.pr) (h : RdAt X w p ⟨t.laid ++ rest, 0⟩) :
    Calls Try.prog 17 #[.pointer (some ⟨p, 0, none⟩)] w fun e w' => e = .returned (.agg (cellsB t.pr).toArray) ∧ RdAt X w' p ⟨rest, 0⟩ ∧ Stay (fun k => k = p) w w' := by
  rw [hk] at h
  exact print_back X w p t.pr rest hok.pr h

theorem Slc.stay' {X : Nat → Prop} {w w' : World} {x : Value} {l : List UInt8} (h : Slc w x l) (hs : Stay X w w') (hx : 0 < l.length → ∀ k, x.ownBlock = some k → ¬ X k) : Slc w' x l := by
  obtain ⟨a0, c, rfl, hr, hn⟩ := h
  exact ⟨a0, c, rfl, hr.stay hs (fun h0 ad e => by subst e; exact hx h0 ad.block rfl), hn⟩

theorem size_u8 (w : World) : (sizeOf 5).run Try.prog w = .ok 1 w := by
  obtain ⟨i0, hi, hz0, hz1, hz2⟩ := info_parts info5
  simp [sizeOf, typeInfo, hi, hz1]
theorem eq_prt (w : World) (pr : List UInt8) (h : pr.length = 32) : (Op.equalIn 10000 28 (.agg (cellsB pr).toArray) (.agg (cellsB pr).toArray)).run Try.prog w = .ok true w := by
  have := run_equalIn_bytes (P := Try.prog) w 9998 28 5 32 Try.underlying28 Try.underlying5 size_u8 pr pr h h
  have h2 : (pr == pr) = true := by simp
  rw [h2] at this
  exact this

/-- The zero thing. -/
def zT : List Value := thingC 0 0 (.slice none 0 0) z32
theorem zero_thing (w : World) : (zeroValue 30).run Try.prog w = .ok (.agg zT.toArray) w := by kernel_rfl
theorem Th.len {t : Th} (hp : t.pr.length = 32) : t.cells.length = 35 := by simp [Th.cells, thingC, length_cellsB, hp]
theorem splice_thing {t : Th} (hp : t.pr.length = 32) : splice zT 0 t.cells = t.cells := by
  unfold splice
  rw [List.take_zero, List.nil_append, Nat.zero_add, Th.len hp, List.drop_eq_nil_of_le (by decide), List.append_nil]
theorem Th.one {w : World} {t : Th} (h : t.Ok w) : ∀ v ∈ t.cells, v.oneCell' = true := by
  obtain ⟨a0, c, hx, _⟩ := h.slc
  intro v hv
  unfold Th.cells thingC at hv
  rw [hx] at hv
  rcases List.mem_append.1 hv with hv | hv
  · simp at hv
    rcases hv with rfl | rfl | rfl <;> rfl
  · exact oneCell_cellsB _ v hv

/-- A thing's cells are old ones. -/
theorem Th.Ok.stay {X : Nat → Prop} {w w' : World} {t : Th} (h : t.Ok w) (hs : Stay X w w') (hX : ∀ k, X k → w.heap.size ≤ k) : t.Ok w' :=
  ⟨h.n1, h.n2, h.slc.stay hs (fun k _ h1 h2 => by have := hX k h2; omega), h.pr⟩

end Go.Proofs.Ytjaflioamjklfaa.Pk
