/-
  bloom: rows of one's own in memory: bytes, ints, truths; made, read, set; a filter in memory.
-/
import Derived.Test.YtgchdgdhjafdbaaDoorPkW
import Derived.Test.YtgchdgdhjafdbaaDoorBoP
import Derived.Test.YtgchdgdhjafdbaaDoorHnMp
namespace Go.Proofs.YtgchdgdhjafdbaaDoor.Bo
open Go.RowKit Pk
set_option maxRecDepth 100000

section
variable {ty : TypeId} {base n : Nat} {w w' : World} {v : Value} {xs : List Value}
theorem row_stay {X : Nat → Prop} (h : w.ownsRow base ty 1 v n xs) (hs : Stay X w w') (hx : ∀ k, v.ownBlock = some k → ¬ X k) : w'.ownsRow base ty 1 v n xs := by
  refine ⟨h.1, ?_⟩
  rcases h.2 with h' | ⟨g, cap, cur, rfl, h4, hg, r⟩
  · exact .inl h'
  · exact .inr ⟨g, cap, cur, rfl, h4, (hs.block g (Array.getElem?_eq_some_iff.1 hg).1 (hx g rfl)).trans hg, r⟩
theorem row_base {base' : Nat} (h : w.ownsRow base ty 1 v n xs) (hb : ∀ k, v.ownBlock = some k → base' ≤ k) : w.ownsRow base' ty 1 v n xs := by
  refine ⟨h.1, ?_⟩
  rcases h.2 with h' | ⟨g, cap, cur, rfl, h4, hg, r⟩
  · exact .inl h'
  · exact .inr ⟨g, cap, cur, rfl, hb g rfl, hg, r⟩
theorem row_form (h : w.ownsRow base ty 1 v n xs) : ∃ a c, v = .slice a n c := by
  rcases h.2 with ⟨rfl, rfl⟩ | ⟨g, cap, cur, rfl, _⟩
  · exact ⟨_, _, rfl⟩
  · exact ⟨_, _, rfl⟩
theorem row_at (h : w.ownsRow base ty 1 v n xs) (h0 : 0 < n) : ∃ g c, v = .slice (some ⟨g, 0, none⟩) n c ∧ base ≤ g ∧ g < w.heap.size := by
  rcases h.2 with ⟨rfl, rfl⟩ | ⟨g, cap, cur, rfl, h4, hg, r⟩
  · omega
  · exact ⟨g, cap, rfl, h4, (Array.getElem?_eq_some_iff.1 hg).1⟩
theorem row_cell {g c : Nat} (h : w.ownsRow base ty 1 (.slice (some ⟨g, 0, none⟩) n c) n xs) {j : Nat} {u : Value} (hu : xs[j]? = some u) : w.cell? ⟨g, j, none⟩ = some u := by
  have := World.ownsRow.cells (g := g) h rfl j u hu
  rwa [add_at, Nat.zero_add] at this
theorem row_fr {g c : Nat} (h : w.ownsRow base ty 1 (.slice (some ⟨g, 0, none⟩) n c) n xs) (j : Nat) : w.frozen? ⟨g, j, none⟩ = false := by
  rcases h.2 with ⟨e, _⟩ | ⟨g', cap, cur, e, h4, hg, r⟩
  · cases e
  · cases e
    exact frozen_of_row w g j _ _ hg
theorem row_set {g c : Nat} (h : w.ownsRow base ty 1 (.slice (some ⟨g, 0, none⟩) n c) n xs) (j : Nat) (u : Value) : (w.setCell ⟨g, j, none⟩ u).ownsRow base ty 1 (.slice (some ⟨g, 0, none⟩) n c) n (xs.set j u) := by
  refine ⟨by rw [List.length_set]; exact h.1, ?_⟩
  rcases h.2 with ⟨e, _⟩ | ⟨g', cap, cur, e, h4, hg, h5, h6, h7, h8⟩
  · cases e
  · cases e
    refine .inr ⟨g, c, cur.setIfInBounds j u, rfl, h4, heap_setCell_same w g j _ _ _ hg, h5, h6, by simpa using h7, ?_⟩
    rw [← h8]
    simp [List.take_set]
theorem row_made (w : World) (ty : TypeId) (xs : List Value) (hl : xs.length ≤ maxLen) : (w.alloc (.cells xs.toArray ty)).ownsRow w.heap.size ty 1 (.slice (some ⟨w.heap.size, 0, none⟩) xs.length xs.length) xs.length xs :=
  ⟨by simp, .inr ⟨w.heap.size, xs.length, xs.toArray, rfl, Nat.le_refl _, heap_alloc_new w _, Nat.le_refl _, hl, by simp, by simp⟩⟩
end

def cellsI (L : List Nat) : List Value := L.map (fun n : Nat => Value.int .i64 (n : Int))
def cellsT (B : List Bool) : List Value := B.map .bool
theorem len_I (L : List Nat) : (cellsI L).length = L.length := by simp [cellsI]
theorem len_T (B : List Bool) : (cellsT B).length = B.length := by simp [cellsT]
theorem at_I {L : List Nat} {j n : Nat} (h : L[j]? = some n) : (cellsI L)[j]? = some (.int .i64 (n : Int)) := by simp [cellsI, h]
theorem at_T {B : List Bool} {j : Nat} {b : Bool} (h : B[j]? = some b) : (cellsT B)[j]? = some (.bool b) := by simp [cellsT, h]
/-- Ints, truths of one's own. -/
def IO (base : Nat) (w : World) (v : Value) (L : List Nat) : Prop := w.ownsRow base 3 1 v L.length (cellsI L)
def TO (base : Nat) (w : World) (v : Value) (B : List Bool) : Prop := w.ownsRow base 4 1 v B.length (cellsT B)

section
variable {base : Nat} {w w' : World} {v : Value} {L : List Nat} {B : List Bool} {X : Nat → Prop}
theorem IO.stay (h : IO base w v L) (hs : Stay X w w') (hx : ∀ k, v.ownBlock = some k → ¬ X k) : IO base w' v L := row_stay h hs hx
theorem IO.stay0 (h : IO base w v L) (hs : Stay (fun _ => False) w w') : IO base w' v L := row_stay h hs (fun _ _ x => x)
theorem IO.lt (h : IO base w v L) : ∀ k, v.ownBlock = some k → base ≤ k ∧ k < w.heap.size := World.ownsRow.lt h
theorem IO.form (h : IO base w v L) : ∃ a c, v = .slice a L.length c := row_form h
theorem IO.at (h : IO base w v L) (h0 : 0 < L.length) : ∃ g c, v = .slice (some ⟨g, 0, none⟩) L.length c ∧ base ≤ g ∧ g < w.heap.size := row_at h h0
theorem IO.cell {g c : Nat} (h : IO base w (.slice (some ⟨g, 0, none⟩) L.length c) L) {j n : Nat} (hj : L[j]? = some n) : w.cell? ⟨g, j, none⟩ = some (.int .i64 (n : Int)) := row_cell h (at_I hj)
theorem IO.nil (base : Nat) (w : World) : IO base w (.slice none 0 0) [] := World.ownsRow_nil w base _ _
theorem TO.stay (h : TO base w v B) (hs : Stay X w w') (hx : ∀ k, v.ownBlock = some k → ¬ X k) : TO base w' v B := row_stay h hs hx
theorem TO.stay0 (h : TO base w v B) (hs : Stay (fun _ => False) w w') : TO base w' v B := row_stay h hs (fun _ _ x => x)
theorem TO.lt (h : TO base w v B) : ∀ k, v.ownBlock = some k → base ≤ k ∧ k < w.heap.size := World.ownsRow.lt h
theorem TO.form (h : TO base w v B) : ∃ a c, v = .slice a B.length c := row_form h
theorem TO.at (h : TO base w v B) (h0 : 0 < B.length) : ∃ g c, v = .slice (some ⟨g, 0, none⟩) B.length c ∧ base ≤ g ∧ g < w.heap.size := row_at h h0
theorem TO.cell {g c : Nat} (h : TO base w (.slice (some ⟨g, 0, none⟩) B.length c) B) {j : Nat} {b : Bool} (hj : B[j]? = some b) : w.cell? ⟨g, j, none⟩ = some (.bool b) := row_cell h (at_T hj)
theorem TO.nil (base : Nat) (w : World) : TO base w (.slice none 0 0) [] := World.ownsRow_nil w base _ _
theorem TO.base' {base' : Nat} (h : TO base w v B) (hb : ∀ k, v.ownBlock = some k → base' ≤ k) : TO base' w v B := row_base h hb
end
theorem IO.cell' {base : Nat} {w : World} {L : List Nat} {g m c : Nat} (hm : m = L.length) (h : IO base w (.slice (some ⟨g, 0, none⟩) m c) L) {j n : Nat} (hj : L[j]? = some n) : w.cell? ⟨g, j, none⟩ = some (.int .i64 (n : Int)) := by subst hm; exact IO.cell h hj
theorem IO.fr {base : Nat} {w : World} {L : List Nat} {g m c : Nat} (hm : m = L.length) (h : IO base w (.slice (some ⟨g, 0, none⟩) m c) L) (j : Nat) : w.frozen? ⟨g, j, none⟩ = false := by subst hm; exact row_fr h j
theorem TO.cell' {base : Nat} {w : World} {B : List Bool} {g m c : Nat} (hm : m = B.length) (h : TO base w (.slice (some ⟨g, 0, none⟩) m c) B) {j : Nat} {b : Bool} (hj : B[j]? = some b) : w.cell? ⟨g, j, none⟩ = some (.bool b) := by subst hm; exact TO.cell h hj
theorem TO.fr {base : Nat} {w : World} {B : List Bool} {g m c : Nat} (hm : m = B.length) (h : TO base w (.slice (some ⟨g, 0, none⟩) m c) B) (j : Nat) : w.frozen? ⟨g, j, none⟩ = false := by subst hm; exact row_fr h j
theorem owns_cell' {base : Nat} {w : World} {l : List UInt8} {g m c : Nat} (hm : m = l.length) (h : Owns base w (.slice (some ⟨g, 0, none⟩) m c) l) {j : Nat} {b : UInt8} (hj : l[j]? = some b) : w.cell? ⟨g, j, none⟩ = some (byteV b) := by subst hm; exact row_cell h (by simp [cellsB, hj])
theorem owns_fr {base : Nat} {w : World} {l : List UInt8} {g m c : Nat} (hm : m = l.length) (h : Owns base w (.slice (some ⟨g, 0, none⟩) m c) l) (j : Nat) : w.frozen? ⟨g, j, none⟩ = false := by subst hm; exact row_fr h j
theorem IO.set {base : Nat} {w : World} {L : List Nat} {g m c : Nat} (hm : m = L.length) (h : IO base w (.slice (some ⟨g, 0, none⟩) m c) L) (j n : Nat) : IO base (w.setCell ⟨g, j, none⟩ (.int .i64 (n : Int))) (.slice (some ⟨g, 0, none⟩) m c) (L.set j n) := by
  subst hm
  have := row_set h j (.int .i64 (n : Int))
  unfold IO
  rw [List.length_set]
  have e : cellsI (L.set j n) = (cellsI L).set j (.int .i64 (n : Int)) := by simp [cellsI, List.map_set]
  rw [e]
  exact this
theorem TO.set {base : Nat} {w : World} {B : List Bool} {g m c : Nat} (hm : m = B.length) (h : TO base w (.slice (some ⟨g, 0, none⟩) m c) B) (j : Nat) (b : Bool) : TO base (w.setCell ⟨g, j, none⟩ (.bool b)) (.slice (some ⟨g, 0, none⟩) m c) (B.set j b) := by
  subst hm
  have := row_set h j (.bool b)
  unfold TO
  rw [List.length_set]
  have e : cellsT (B.set j b) = (cellsT B).set j (.bool b) := by simp [cellsT, List.map_set]
  rw [e]
  exact this
theorem owns_set {base : Nat} {w : World} {l : List UInt8} {g m c : Nat} (hm : m = l.length) (h : Owns base w (.slice (some ⟨g, 0, none⟩) m c) l) (j : Nat) (b : UInt8) : Owns base (w.setCell ⟨g, j, none⟩ (byteV b)) (.slice (some ⟨g, 0, none⟩) m c) (l.set j b) := by
  subst hm
  have := row_set h j (byteV b)
  unfold Owns
  rw [List.length_set]
  have e : cellsB (l.set j b) = (cellsB l).set j (byteV b) := by simp [cellsB, List.map_set]
  rw [e]
  exact this

theorem infoB : (Tryd.prog.info? 4).map (fun i => (i.zero, i.size, i.bytes)) = some (some (.bool false), 1, 1) := by kernel_rfl
theorem infoI : (Tryd.prog.info? 3).map (fun i => (i.zero, i.size, i.bytes)) = some (some (.int .i64 0), 1, 8) := by kernel_rfl
theorem made_one (z : Value) (hz : z.cells = #[z]) (n : Nat) : madeCells z.cells n = (List.replicate n z).toArray := by
  unfold madeCells
  rw [hz]
  apply Array.ext
  · simp
  · intro i h1 h2
    simp [Nat.mod_one]
theorem run_make_u8 (w : World) (n : Nat) (hn : n ≤ 4294967296) : (Instr.makeSlice 25 (.int .i64 (n : Int)) (.int .i64 (n : Int))).run Tryd.prog w = .ok (.slice (some ⟨w.heap.size, 0, none⟩) n n) (w.alloc (.cells (cellsB (List.replicate n 0)).toArray 5)) := by
  obtain ⟨i0, hi, hz0, hz1, hz2⟩ := info_parts info5
  have hm := run_make (P := Tryd.prog) w 25 5 i0 (.int .u8 0) Tryd.underlying25 hi hz0 .i64 .i64 n n (by omega) (Int.le_refl _) (by rw [hz2]; omega) (by omega)
  rw [hz1, Int.toNat_natCast, Nat.mul_one, made_one _ rfl] at hm
  rw [show cellsB (List.replicate n 0) = List.replicate n (.int .u8 0) by simp [cellsB, byteV]]
  exact hm
theorem run_make_bool (w : World) (n : Nat) (hn : n ≤ 4294967296) : (Instr.makeSlice 31 (.int .i64 (n : Int)) (.int .i64 (n : Int))).run Tryd.prog w = .ok (.slice (some ⟨w.heap.size, 0, none⟩) n n) (w.alloc (.cells (cellsT (List.replicate n false)).toArray 4)) := by
  obtain ⟨i0, hi, hz0, hz1, hz2⟩ := info_parts infoB
  have hm := run_make (P := Tryd.prog) w 31 4 i0 (.bool false) Tryd.underlying31 hi hz0 .i64 .i64 n n (by omega) (Int.le_refl _) (by rw [hz2]; omega) (by omega)
  rw [hz1, Int.toNat_natCast, Nat.mul_one, made_one _ rfl] at hm
  rw [show cellsT (List.replicate n false) = List.replicate n (.bool false) by simp [cellsT]]
  exact hm
theorem run_make_int (w : World) (n : Nat) (hn : n ≤ 4294967296) : (Instr.makeSlice 44 (.int .i64 (n : Int)) (.int .i64 (n : Int))).run Tryd.prog w = .ok (.slice (some ⟨w.heap.size, 0, none⟩) n n) (w.alloc (.cells (cellsI (List.replicate n 0)).toArray 3)) := by
  obtain ⟨i0, hi, hz0, hz1, hz2⟩ := info_parts infoI
  have hm := run_make (P := Tryd.prog) w 44 3 i0 (.int .i64 0) Tryd.underlying44 hi hz0 .i64 .i64 n n (by omega) (Int.le_refl _) (by rw [hz2]; omega) (by omega)
  rw [hz1, Int.toNat_natCast, Nat.mul_one, made_one _ rfl] at hm
  rw [show cellsI (List.replicate n 0) = List.replicate n (.int .i64 0) by simp [cellsI]]
  exact hm
section
variable {ops : Array Oper} {rest : List Oper} {o : Oper} {a : Act} {w : World} {Q : Exit → Act → World → Prop}
theorem make_u8 (hgd : o.guard = none) (x y : Operand) (ho : o.op = .makeSlice 25 x y) (n : Nat) (hx : a.eval x = .int .i64 (n : Int)) (hy : a.eval y = .int .i64 (n : Int)) (hn : n ≤ 4294967296)
    (h : ∀ w1, Owns w.heap.size w1 (.slice (some ⟨w.heap.size, 0, none⟩) n n) (List.replicate n 0) → Stay (fun _ => False) w w1 → w1.heap.size = w.heap.size + 1 → wpList Tryd.prog ops Q rest (a.put o.dst (.slice (some ⟨w.heap.size, 0, none⟩) n n)) w1) : wpList Tryd.prog ops Q (o :: rest) a w :=
  wpList_plain hgd fun _ hK => by
    unfold Oper.wp execOp
    simp only [ho, hx, hy, Sem.run_bind, Sem.run_pure, run_make_u8 w n hn, Result.andThen_ok]
    refine hK _ _ (h _ ?_ (Stay.alloc _ _) (by simp))
    have := row_made w 5 (cellsB (List.replicate n 0)) (by rw [length_cellsB]; unfold maxLen; simp; omega)
    rw [length_cellsB] at this
    unfold Owns
    rw [List.length_replicate] at this ⊢
    exact this
theorem make_bool (hgd : o.guard = none) (x y : Operand) (ho : o.op = .makeSlice 31 x y) (n : Nat) (hx : a.eval x = .int .i64 (n : Int)) (hy : a.eval y = .int .i64 (n : Int)) (hn : n ≤ 4294967296)
    (h : ∀ w1, TO w.heap.size w1 (.slice (some ⟨w.heap.size, 0, none⟩) n n) (List.replicate n false) → Stay (fun _ => False) w w1 → w1.heap.size = w.heap.size + 1 → wpList Tryd.prog ops Q rest (a.put o.dst (.slice (some ⟨w.heap.size, 0, none⟩) n n)) w1) : wpList Tryd.prog ops Q (o :: rest) a w :=
  wpList_plain hgd fun _ hK => by
    unfold Oper.wp execOp
    simp only [ho, hx, hy, Sem.run_bind, Sem.run_pure, run_make_bool w n hn, Result.andThen_ok]
    refine hK _ _ (h _ ?_ (Stay.alloc _ _) (by simp))
    have := row_made w 4 (cellsT (List.replicate n false)) (by rw [len_T]; unfold maxLen; simp; omega)
    rw [len_T] at this
    unfold TO
    rw [List.length_replicate] at this ⊢
    exact this
theorem make_int (hgd : o.guard = none) (x y : Operand) (ho : o.op = .makeSlice 44 x y) (n : Nat) (hx : a.eval x = .int .i64 (n : Int)) (hy : a.eval y = .int .i64 (n : Int)) (hn : n ≤ 4294967296)
    (h : ∀ w1, IO w.heap.size w1 (.slice (some ⟨w.heap.size, 0, none⟩) n n) (List.replicate n 0) → Stay (fun _ => False) w w1 → w1.heap.size = w.heap.size + 1 → wpList Tryd.prog ops Q rest (a.put o.dst (.slice (some ⟨w.heap.size, 0, none⟩) n n)) w1) : wpList Tryd.prog ops Q (o :: rest) a w :=
  wpList_plain hgd fun _ hK => by
    unfold Oper.wp execOp
    simp only [ho, hx, hy, Sem.run_bind, Sem.run_pure, run_make_int w n hn, Result.andThen_ok]
    refine hK _ _ (h _ ?_ (Stay.alloc _ _) (by simp))
    have := row_made w 3 (cellsI (List.replicate n 0)) (by rw [len_I]; unfold maxLen; simp; omega)
    rw [len_I] at this
    unfold IO
    rw [List.length_replicate] at this ⊢
    exact this
end

/-- A filter in memory: its struct, and the block of its bits. -/
structure FAt (w : World) (p g q : Nat) (B : List Bool) : Prop where
  lo : 1 ≤ B.length
  hi : B.length ≤ 1048576
  qlo : 1 ≤ q
  qhi : q ≤ 16
  ne : p ≠ g
  mem : ∃ n c, n = need B.length ∧ w.heap[p]? = some (.cells #[.int .i64 (B.length : Int), .int .i64 (q : Int), .slice (some ⟨g, 0, none⟩) n c] 58 (0, 0)) ∧ Owns 0 w (.slice (some ⟨g, 0, none⟩) n c) (packB B)
section
variable {w w' : World} {p g q : Nat} {B : List Bool} {X : Nat → Prop}
theorem FAt.stay (h : FAt w p g q B) (hs : Stay X w w') (hp : ¬ X p) (hg : ¬ X g) : FAt w' p g q B := by
  obtain ⟨h1, h2, h3, h4, h5, n, c, hn, h6, h7⟩ := h
  exact ⟨h1, h2, h3, h4, h5, n, c, hn, (hs.block p (lt_of_block h6) hp).trans h6, h7.stay hs (fun k hk => by cases hk; exact hg)⟩
theorem FAt.stay0 (h : FAt w p g q B) (hs : Stay (fun _ => False) w w') : FAt w' p g q B := h.stay hs (fun x => x) (fun x => x)
theorem FAt.plt (h : FAt w p g q B) : p < w.heap.size := by
  obtain ⟨_, _, _, _, _, n, c, hn, h6, h7⟩ := h
  exact lt_of_block h6
theorem FAt.glt (h : FAt w p g q B) : g < w.heap.size := by
  obtain ⟨_, _, _, _, _, n, c, hn, h6, h7⟩ := h
  exact (h7.lt g rfl).2
end
theorem len_pack (B : List Bool) : (packB B).length = need B.length := (packB_is B).len
end Go.Proofs.YtgchdgdhjafdbaaDoor.Bo
