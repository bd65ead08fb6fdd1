/-
  Sectors of 64 bytes that lie one behind the other in a row: plain lists.
-/
import Derived.Test.YthbcgimmbcdnmaaDoorRow
namespace Go.Proofs.YthbcgimmbcdnmaaDoor
open Go.RowKit Go.Maps

def byteV (b : UInt8) : Value := .int .u8 (b.toNat : Int)
def cellsB (l : List UInt8) : List Value := l.map byteV
theorem length_cellsB (l : List UInt8) : (cellsB l).length = l.length := by simp [cellsB]
theorem oneCell_cellsB (l : List UInt8) : ∀ v ∈ cellsB l, v.oneCell' = true := by
  intro v hv
  simp only [cellsB, List.mem_map] at hv
  obtain ⟨b, _, rfl⟩ := hv
  rfl

def zsec : List UInt8 := List.replicate 64 0
theorem length_zsec : zsec.length = 64 := by simp [zsec]

/-- The sectors s 0, s 1, .. s (n - 1). -/
def flat (s : Nat → List UInt8) (n : Nat) : List UInt8 := (List.range n).flatMap s
def Wide (s : Nat → List UInt8) : Prop := ∀ j, (s j).length = 64
def upd (s : Nat → List UInt8) (j : Nat) (l : List UInt8) : Nat → List UInt8 := fun i => if i = j then l else s i

theorem upd_wide {s : Nat → List UInt8} (h : Wide s) (j : Nat) {l : List UInt8} (hl : l.length = 64) : Wide (upd s j l) := fun i => by
  unfold upd; split
  · exact hl
  · exact h i

theorem flat_succ (s : Nat → List UInt8) (n : Nat) : flat s (n + 1) = flat s n ++ s n := by simp [flat, List.range_succ]

theorem length_flat {s : Nat → List UInt8} (h : Wide s) : ∀ n, (flat s n).length = n * 64
  | 0 => by simp [flat]
  | n + 1 => by rw [flat_succ, List.length_append, length_flat h n, h n]; omega

theorem flat_at {s : Nat → List UInt8} (h : Wide s) (j k : Nat) (hk : k < 64) : ∀ n, j < n → (flat s n)[j * 64 + k]? = (s j)[k]?
  | 0, hj => by omega
  | n + 1, hj => by
    have hl := length_flat h n
    rw [flat_succ]
    by_cases hjn : j < n
    · rw [List.getElem?_append_left (by omega)]
      exact flat_at h j k hk n hjn
    · obtain rfl : j = n := by omega
      rw [List.getElem?_append_right (by omega), hl]
      congr 1; omega

theorem flat_congr {s s' : Nat → List UInt8} {n : Nat} (h : ∀ j, j < n → s j = s' j) : flat s n = flat s' n := by
  unfold flat
  have : ∀ l : List Nat, (∀ j ∈ l, j < n) → l.flatMap s = l.flatMap s' := by
    intro l
    induction l with
    | nil => intro _; rfl
    | cons x r ih => intro hl; simp only [List.flatMap_cons, h x (hl x (by simp)), ih (fun j hj => hl j (by simp [hj]))]
  exact this _ (fun j hj => List.mem_range.1 hj)

theorem splice_flat {s : Nat → List UInt8} (h : Wide s) {l : List UInt8} (hl : l.length = 64) {j n : Nat} (hj : j < n) : splice (flat s n) (j * 64) l = flat (upd s j l) n := by
  have hf := length_flat h n
  have hf' := length_flat (upd_wide h j hl) n
  apply List.ext_getElem?
  intro i
  by_cases hi : i < n * 64
  · obtain ⟨q, k, hk, rfl⟩ : ∃ q k, k < 64 ∧ i = q * 64 + k := ⟨i / 64, i % 64, Nat.mod_lt _ (by omega), by omega⟩
    have hq : q < n := by omega
    rw [flat_at (upd_wide h j hl) q k hk n hq]
    unfold splice upd
    by_cases hqj : q = j
    · subst hqj
      rw [if_pos rfl, List.getElem?_append_right (by simp; omega), List.getElem?_append_left (by simp; omega)]
      congr 1; simp; omega
    · rw [if_neg hqj, ← flat_at h q k hk n hq]
      by_cases hlt : q < j
      · rw [List.getElem?_append_left (by simp; omega), List.getElem?_take_of_lt (by omega)]
      · rw [List.getElem?_append_right (by simp; omega), List.getElem?_append_right (by simp; omega), List.getElem?_drop]
        congr 1; simp; omega
  · rw [List.getElem?_eq_none (by rw [length_splice _ _ _ (by omega)]; omega), List.getElem?_eq_none (by omega)]

theorem flat_zero (n : Nat) : flat (fun _ => zsec) n = List.replicate (n * 64) 0 := by
  induction n with
  | zero => simp [flat]
  | succ n ih => rw [flat_succ, ih, zsec, List.replicate_append_replicate]; congr 1; omega

theorem splice_map {α β : Type} (f : α → β) (L : List α) (k : Nat) (l : List α) : splice (L.map f) k (l.map f) = (splice L k l).map f := by
  simp [splice]

theorem splice_cells {s : Nat → List UInt8} (h : Wide s) {l : List UInt8} (hl : l.length = 64) {j n : Nat} (hj : j < n) :
    splice (cellsB (flat s n)) (j * 64) (cellsB l) = cellsB (flat (upd s j l) n) := by
  rw [← splice_flat h hl hj]; exact splice_map byteV _ _ _

theorem cells_at {s : Nat → List UInt8} (h : Wide s) {j n : Nat} (hj : j < n) : ∀ k, k < (cellsB (s j)).toArray.size → (cellsB (flat s n)).toArray[j * 64 + k]? = (cellsB (s j)).toArray[k]? := by
  intro k hk
  have hk' : k < 64 := by simpa [cellsB, h j] using hk
  simp only [List.getElem?_toArray, cellsB, List.getElem?_map, flat_at h j k hk' n hj]

end Go.Proofs.YthbcgimmbcdnmaaDoor
