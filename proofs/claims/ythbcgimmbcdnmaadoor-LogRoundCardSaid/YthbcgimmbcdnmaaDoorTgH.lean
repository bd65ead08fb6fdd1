/-
  toggle: what a sector tells; a sector read.
-/
import Derived.Test.YthbcgimmbcdnmaaDoorTgB
import Derived.Test.YthbcgimmbcdnmaaDoorPkG
import Derived.Stop.BytesEq
namespace Go.Proofs.YthbcgimmbcdnmaaDoor.Tg
open Go.RowKit Pk
set_option maxRecDepth 100000

theorem cur64 {w : World} {pd ps pm : Nat} {d : DS} (h : DevAt w pd ps pm d) (i : Nat) : (d.cur i).length = 64 := by
  exact cur_len h.wide h.map.1 i

/-- Read, as a function: a sector that there is. -/
def readD (d : DS) (i : Nat) : List UInt8 × Nat := if down d = true then ([], 13) else (d.cur i, 0)

theorem read_all (w : World) (pd ps pm : Nat) (d : DS) (i : Nat) (h : DevAt w pd ps pm d) (hi : i < d.n) :
    Calls Tryd.prog 36 #[.pointer (some ⟨pd, 0, none⟩), .int .i64 i] w fun e w' => ∃ v, e = .returned (.tuple #[v, errV (readD d i).2]) ∧ Owns w.heap.size w' v (readD d i).1 ∧ Stay (fun _ => False) w w' := by
  by_cases hd : down d = true
  · have e1 : readD d i = ([], 13) := if_pos hd
    rw [e1]
    refine (read_down w pd ps pm d i h hd).mono ?_
    rintro e w' ⟨rfl, rfl⟩
    exact ⟨_, rfl, Owns.nil _ _, Stay.refl _ _⟩
  · have e1 : readD d i = (d.cur i, 0) := if_neg hd
    obtain ⟨hcr, hlo⟩ := up_cr hd
    rw [e1]
    have hl := cur64 h i
    have key : Calls Tryd.prog 36 #[.pointer (some ⟨pd, 0, none⟩), .int .i64 i] w fun e w' => ∃ v, e = .returned (.tuple #[v, .nilIface]) ∧
        w'.ownsRow w.heap.size 5 1 v 64 (cellsB (d.cur i)) ∧ Stay (fun _ => False) w w' ∧ v ≠ .slice none 0 0 := by
      cases hL : d.L i with
      | none => unfold DS.cur; rw [hL]; exact read_none w pd ps pm d i h hcr hlo hi hL
      | some l => unfold DS.cur; rw [hL]; exact read_some w pd ps pm d i l h hcr hlo hi hL
    refine key.mono ?_
    rintro e w' ⟨v, rfl, hrow, hs, _⟩
    exact ⟨v, rfl, by unfold Owns; rw [hl]; exact hrow, hs⟩

/-- The greatest number that a teller may tell. -/
def topN : Nat := 18446744073709551614
/-- What a sector tells: a number, whether the second place counts, how many bytes; and an error's number. -/
def tellD (l : List UInt8) (room : Nat) : (Nat × Bool × Nat) × Nat :=
  if l = zsec then ((0, false, 0), 8) else
  if (takeB (numB room) 0 (takeB truB false (takeB (numB topN) 0 ⟨l, 0⟩).2).2).2.err ≠ 0 ∨ (takeB (numB topN) 0 ⟨l, 0⟩).1 = 0 then ((0, false, 0), 3) else
  (((takeB (numB topN) 0 ⟨l, 0⟩).1, (takeB truB false (takeB (numB topN) 0 ⟨l, 0⟩).2).1, (takeB (numB room) 0 (takeB truB false (takeB (numB topN) 0 ⟨l, 0⟩).2).2).1), 0)
/-- A teller, as a value. -/
def tellW (t : Nat × Bool × Nat) : Value := .agg #[.int .u64 t.1, .bool t.2.1, .int .i64 t.2.2]

theorem run_load_at (w : World) (ad : Addr) (ty : TypeId) (cs : List Value) (d : TypeDesc)
    (hu : Tryd.prog.underlying ty = some d) (hd : (match d with | .struct _ | .array _ _ => true | _ => false) = true) (hi : (Tryd.prog.info? ty).map (·.size) = some cs.length)
    (hcs : ∀ j v, cs[j]? = some v → w.cell? (ad.add j) = some v) :
    (loadVar ty ad).run Tryd.prog w = .ok (.agg cs.toArray) w := by
  have hl : (loadCells ad cs.length).run Tryd.prog w = .ok cs.toArray w := run_loadCells_list (P := Tryd.prog) w ad cs hcs
  cases hq : Tryd.prog.info? ty with
  | none => simp [hq] at hi
  | some i =>
    have hs : i.size = cs.length := by simpa [hq] using hi
    have hagg : (isAgg ty).run Tryd.prog w = .ok true w := by
      unfold isAgg
      rw [Sem.run_bind, run_underlying hu w]
      cases d <;> simp_all
    simp [loadVar, Sem.run_bind, hagg, sizeOf, typeInfo, hq, hs, hl]
theorem wpList_load_at {ops : Array Oper} {rest : List Oper} {o : Oper} {a : Act} {w : World} {Q : Exit → Act → World → Prop} (hgd : o.guard = none) (ty : TypeId) (x : Operand) (ho : o.op = .load ty x)
    (ad : Addr) (hx : a.eval x = .pointer (some ad)) (cs : List Value) (hl : (loadVar ty ad).run Tryd.prog w = .ok (.agg cs.toArray) w)
    (h : wpList Tryd.prog ops Q rest (a.put o.dst (.agg cs.toArray)) w) : wpList Tryd.prog ops Q (o :: rest) a w :=
  wpList_plain hgd fun _ hK => by
    unfold Oper.wp execOp
    simp only [ho, hx, Instr.loadAt, Instr.sureAddr, Sem.run_bind, Sem.run_pure, Result.andThen_ok, hl]
    exact hK _ _ h
theorem size_u8 (w : World) : (sizeOf 5).run Tryd.prog w = .ok 1 w := by
  obtain ⟨i0, hi, hz0, hz1, hz2⟩ := info_parts info5
  simp [sizeOf, typeInfo, hi, hz1]
theorem eq_block (w : World) (p q : List UInt8) (hp : p.length = 64) (hq : q.length = 64) : (Op.equalIn 10000 84 (.agg (cellsB p).toArray) (.agg (cellsB q).toArray)).run Tryd.prog w = .ok (p == q) w :=
  run_equalIn_bytes (P := Tryd.prog) w 9998 84 5 64 Tryd.underlying84 Tryd.underlying5 size_u8 p q hp hq
theorem array_block (w : World) (a : Option Addr) (c : Nat) : (Instr.arrayAt 84 (.slice a 64 c)).run Tryd.prog w = .ok (.pointer a) w := by
  simp [Instr.arrayAt, Sem.run_bind, run_underlying Tryd.underlying84]
theorem info_block {l : List UInt8} (h : l.length = 64) : (Tryd.prog.info? 84).map (·.size) = some (cellsB l).length := by
  rw [length_cellsB, h]; kernel_rfl

theorem take_num_le (most : Nat) (s : RS) : (takeB (numB most) 0 s).1 ≤ most := by
  by_cases h : s.err = 0
  · cases hr : numB most s.b with
    | error c => rw [takeB_error h hr]; exact Nat.zero_le _
    | ok v =>
      obtain ⟨n, r⟩ := v
      rw [takeB_ok h hr]; exact numB_le hr
  · rw [takeB_bad h]; exact Nat.zero_le _

theorem three_set {w : World} {b : Nat} {a0 a1 a2 v0 v1 v2 : Value} {t : TypeId} (h : w.heap[b]? = some (.cells #[a0, a1, a2] t (0, 0))) :
    (((w.setCell ⟨b, 0, none⟩ v0).setCell ⟨b, 1, none⟩ v1).setCell ⟨b, 2, none⟩ v2).heap[b]? = some (.cells #[v0, v1, v2] t (0, 0)) := by
  have h0 := heap_setCell_same w b 0 _ t v0 h
  have h1 := heap_setCell_same _ b 1 _ t v1 h0
  exact heap_setCell_same _ b 2 _ t v2 h1
theorem three_stay {w w' : World} {b : Nat} {v0 v1 v2 : Value} (h : Stay (fun _ => False) w w') (hb : w.heap.size ≤ b) :
    Stay (fun _ => False) w (((w'.setCell ⟨b, 0, none⟩ v0).setCell ⟨b, 1, none⟩ v1).setCell ⟨b, 2, none⟩ v2) :=
  stay_seal (X := fun k => k = b) ((((h.mono (fun _ x => x.elim)).trans (Stay.setCell (X := fun k => k = b) w' ⟨b, 0, none⟩ v0 rfl)).trans (Stay.setCell (X := fun k => k = b) _ ⟨b, 1, none⟩ v1 rfl)).trans (Stay.setCell (X := fun k => k = b) _ ⟨b, 2, none⟩ v2 rfl)) (fun k hk => by have e : k = b := hk; omega)

end Go.Proofs.YthbcgimmbcdnmaaDoor.Tg
