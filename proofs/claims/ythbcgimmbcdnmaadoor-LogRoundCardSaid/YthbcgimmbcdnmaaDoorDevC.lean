/-
  dev: a device in memory (DevAt); the contracts of Read and Write over it.
-/
import Derived.Test.YthbcgimmbcdnmaaDoorDevB
import Derived.Test.YthbcgimmbcdnmaaDoorDevMap
namespace Go.Proofs.YthbcgimmbcdnmaaDoor
open Go.RowKit Go.Maps
set_option maxRecDepth 100000

/-- What a device is: n sectors; what is safe of each; what is loose; its marks and counts. -/
structure DS where
  n : Nat
  s : Nat → List UInt8
  L : Nat → Option (List UInt8)
  cr : Bool
  lo : Bool
  ar : Bool
  left : Int
  wr : Int

/-- The device d lies at blocks pd (its struct), ps (its sectors), pm (its map). -/
structure DevAt (w : World) (pd ps pm : Nat) (d : DS) : Prop where
  hd : w.heap[pd]? = some (.cells (hdr ps d.n pm d.cr d.lo d.ar d.left d.wr) 54 (0, 0))
  sec : w.heap[ps]? = some (.cells (cellsB (flat d.s d.n)).toArray 84 (0, 0))
  map : MapAt Tryd.prog 3 w pm d.n d.L
  wide : Wide d.s
  n1 : 1 ≤ d.n
  n2 : d.n ≤ 16384
  ne1 : pd ≠ ps
  ne2 : pd ≠ pm
  ne3 : ps ≠ pm

/-- One of the device's own blocks. -/
def own (pd ps pm : Nat) : Nat → Prop := fun k => k = pd ∨ k = ps ∨ k = pm

section
variable {w : World} {pd ps pm : Nat} {d : DS}

theorem DevAt.c (h : DevAt w pd ps pm d) (j : Nat) : w.cell? ⟨pd, j, none⟩ = (hdr ps d.n pm d.cr d.lo d.ar d.left d.wr)[j]? := cell_of_row w pd j _ _ _ h.hd
theorem DevAt.c0 (h : DevAt w pd ps pm d) : w.cell? ⟨pd, 0, none⟩ = some (.slice (some ⟨ps, 0, none⟩) d.n d.n) := h.c 0
theorem DevAt.c1 (h : DevAt w pd ps pm d) : w.cell? ⟨pd, 1, none⟩ = some (.map (some pm)) := h.c 1
theorem DevAt.c2 (h : DevAt w pd ps pm d) : w.cell? ⟨pd, 2, none⟩ = some (.bool d.cr) := h.c 2
theorem DevAt.c3 (h : DevAt w pd ps pm d) : w.cell? ⟨pd, 3, none⟩ = some (.bool d.lo) := h.c 3
theorem DevAt.c4 (h : DevAt w pd ps pm d) : w.cell? ⟨pd, 4, none⟩ = some (.bool d.ar) := h.c 4
theorem DevAt.c5 (h : DevAt w pd ps pm d) : w.cell? ⟨pd, 5, none⟩ = some (.int .i64 d.left) := h.c 5
theorem DevAt.c6 (h : DevAt w pd ps pm d) : w.cell? ⟨pd, 6, none⟩ = some (.int .i64 d.wr) := h.c 6
theorem DevAt.fz (h : DevAt w pd ps pm d) (j : Nat) : w.frozen? ⟨pd, j, none⟩ = false := frozen_of_row w pd j _ _ h.hd
theorem DevAt.lt1 (h : DevAt w pd ps pm d) : pd < w.heap.size := (Array.getElem?_eq_some_iff.1 h.hd).1
theorem DevAt.lt2 (h : DevAt w pd ps pm d) : ps < w.heap.size := (Array.getElem?_eq_some_iff.1 h.sec).1
theorem DevAt.lt3 (h : DevAt w pd ps pm d) : pm < w.heap.size := h.map.lt

/-- What turns none of the device's blocks leaves it as it is. -/
theorem DevAt.stay {X : Nat → Prop} {w' : World} (h : DevAt w pd ps pm d) (hs : Stay X w w') (h1 : ¬ X pd) (h2 : ¬ X ps) (h3 : ¬ X pm) : DevAt w' pd ps pm d :=
  { h with hd := (hs.block pd h.lt1 h1).trans h.hd, sec := (hs.block ps h.lt2 h2).trans h.sec, map := h.map.stay hs h3 }

/-- What a sector's bytes are: as they were written last. -/
def DS.cur (d : DS) (i : Nat) : List UInt8 := (d.L i).getD (d.s i)

theorem cur_len {d : DS} (hs : Wide d.s) (hL : WideL d.L d.n) (i : Nat) : (d.cur i).length = 64 := by
  unfold DS.cur
  cases h : d.L i with
  | none => exact hs i
  | some l => exact (hL i l h).1
end

/-- A new device. -/
theorem new_dev (n : Nat) (w : World) (h0 : 1 ≤ n) (h1 : n ≤ 16384) :
    Calls Tryd.prog 5 #[.int .i64 n] w fun e w' => e = .returned (.tuple #[.pointer (some ⟨w.heap.size + 1 + 1, 0, none⟩), .nilIface]) ∧
      DevAt w' (w.heap.size + 1 + 1) w.heap.size (w.heap.size + 1) ⟨n, fun _ => zsec, none64, false, false, false, 0, 0⟩ ∧ Stay (fun _ => False) w w' ∧ w'.heap.size = w.heap.size + 1 + 1 + 1 := by
  refine (new_yes n w h0 h1).mono ?_
  rintro e w' ⟨rfl, rfl⟩
  have hz : zeros (n * 64) = (cellsB (flat (fun _ => zsec) n)).toArray := by
    rw [flat_zero]; simp [zeros, cellsB, byteV]
  have hm := mapAt_made Tryd.prog 3 (w.alloc (.cells (zeros (n * 64)) 84)) n
  have e1 : (w.alloc (.cells (zeros (n * 64)) 84)).heap.size = w.heap.size + 1 := by simp
  have e2 : ((w.alloc (.cells (zeros (n * 64)) 84)).alloc (.map #[] 0)).heap.size = w.heap.size + 1 + 1 := by simp
  rw [e1] at hm
  refine ⟨rfl, ?_, ((Stay.alloc _ _).trans (Stay.alloc _ _)).trans (Stay.alloc _ _), by simp⟩
  exact {
    hd := by rw [← e2]; exact heap_alloc_new _ _
    sec := by
      rw [Below.heap_alloc _ _ _ (by simp; omega), Below.heap_alloc _ _ _ (by simp), heap_alloc_new, hz]
    map := hm.stay (X := fun _ => False) (Stay.alloc _ _) (by simp)
    wide := fun _ => length_zsec
    n1 := h0, n2 := h1, ne1 := by omega, ne2 := by omega, ne3 := by omega }

end Go.Proofs.YthbcgimmbcdnmaaDoor
