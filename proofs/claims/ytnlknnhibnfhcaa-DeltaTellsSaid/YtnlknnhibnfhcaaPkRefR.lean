/-
  The document's answer (chapter 2): a reader's Uint, Int, and what it says at its end.
-/
import Derived.Test.YtnlknnhibnfhcaaPkRefN
namespace Go.Proofs.Ytnlknnhibnfhcaa.Pk
open Go.RowKit
set_option maxRecDepth 100000

/-- The document's reader: what is left, the first error. -/
def rdV (x : Value) (err : Nat) : Value := .agg #[x, .int .i64 (err : Int)]

theorem numB_error_of {most c : Nat} {b : List UInt8} (hm : most ≤ M64) (h : numB M64 b = .error c) : numB most b = .error c := by
  cases b with
  | nil => exact h
  | cons d l =>
    unfold numB at *
    simp only [] at *
    split
    · rename_i h1
      rw [if_pos h1] at h
      exact h
    · rename_i h1
      rw [if_neg h1] at h
      split
      · rename_i h2
        rw [if_pos h2] at h
        exact h
      · rename_i h2
        rw [if_neg h2] at h
        split at h
        · rw [if_pos (by omega)]
          exact h
        · cases h
theorem numB_ok_of {most n : Nat} {b r : List UInt8} (h : numB M64 b = .ok (n, r)) : numB most b = if most < n then .error 4 else .ok (n, r) := by
  cases b with
  | nil => cases h
  | cons d l =>
    unfold numB at *
    simp only [] at *
    split
    · rename_i h1
      rw [if_pos h1] at h
      cases h
    · rename_i h1
      rw [if_neg h1] at h
      split
      · rename_i h2
        rw [if_pos h2] at h
        cases h
      · rename_i h2
        rw [if_neg h2] at h
        split at h
        · cases h
        · cases h
          rfl

/-- What the document's reader hands back with a thing. -/
def RdRet {α : Type} (val : α → Value) (w : World) (x : Value) (t : α × RS) (e : Ending) : Prop := ∃ x', e = .returned (.tuple #[rdV x' t.2.err, val t.1]) ∧ Sub w x x' t.2.b

theorem Sub.refl {w : World} {x : Value} {b : List UInt8} (h : Slc w x b) : Sub w x x b := ⟨h, fun _ e => e⟩

theorem two_cells {w : World} {b : Nat} {v0 v1 : Value} {t : TypeId} (h : w.heap[b]? = some (.cells #[v0, v1] t (0, 0))) : w.cell? ⟨b, 0, none⟩ = some v0 ∧ w.cell? ⟨b, 1, none⟩ = some v1 ∧ w.frozen? ⟨b, 0, none⟩ = false ∧ w.frozen? ⟨b, 1, none⟩ = false :=
  ⟨by rw [cell_of_row w b 0 _ _ _ h]; rfl, by rw [cell_of_row w b 1 _ _ _ h]; rfl, frozen_of_row w b 0 _ _ h, frozen_of_row w b 1 _ _ h⟩
theorem two_boxes {w w1 : World} {A B : Obj} (hs : Stay (fun _ => False) ((w.alloc A).alloc B) w1) : w1.heap[w.heap.size]? = some A ∧ w1.heap[w.heap.size + 1]? = some B := by
  have h1 : ((w.alloc A).alloc B).heap[w.heap.size]? = some A := (Below.heap_alloc (w.alloc A) B w.heap.size (by simp)).trans (heap_alloc_new w A)
  have h2 : ((w.alloc A).alloc B).heap[w.heap.size + 1]? = some B := by
    have := heap_alloc_new (w.alloc A) B
    simpa using this
  exact ⟨(hs.block _ (by simp; omega) (fun x => x)).trans h1, (hs.block _ (by simp) (fun x => x)).trans h2⟩

theorem stay_set2 {w w2 : World} {B : Nat} (h : Stay (fun _ => False) w w2) (hB : w.heap.size ≤ B) (u v : Value) : Stay (fun _ => False) w ((w2.setCell ⟨B, 0, none⟩ u).setCell ⟨B, 1, none⟩ v) :=
  stay_seal (X := fun k => w.heap.size ≤ k) (((h.mono (fun _ x => x.elim)).trans (Stay.setCell _ _ _ hB)).trans (Stay.setCell _ _ _ hB)) (fun _ hk => hk)
theorem stay_set3 {w w2 : World} {A B : Nat} (h : Stay (fun _ => False) w w2) (hA : w.heap.size ≤ A) (hB : w.heap.size ≤ B) (t u v : Value) : Stay (fun _ => False) w (((w2.setCell ⟨A, 0, none⟩ t).setCell ⟨B, 0, none⟩ u).setCell ⟨B, 1, none⟩ v) :=
  stay_seal (X := fun k => w.heap.size ≤ k) ((((h.mono (fun _ x => x.elim)).trans (Stay.setCell _ _ _ hA)).trans (Stay.setCell _ _ _ hB)).trans (Stay.setCell _ _ _ hB)) (fun _ hk => hk)

end Go.Proofs.Ytnlknnhibnfhcaa.Pk
