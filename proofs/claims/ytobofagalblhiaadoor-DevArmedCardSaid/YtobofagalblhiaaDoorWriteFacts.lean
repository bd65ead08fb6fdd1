/-
  dev: Write outside and of too much; a sector's bytes as cells and as a text.
-/
import Derived.Test.YtobofagalblhiaaDoorKeptFacts
import Derived.Test.YtobofagalblhiaaDoorNum
namespace Go.Proofs.YtobofagalblhiaaDoor
open Go.RowKit Go.Maps
set_option maxRecDepth 100000

/-- Write outside: ErrRange, nothing is done. -/
theorem write_out (w : World) (pd ps pm : Nat) (d : DS) (i : Int) (v : Value) (h : DevAt w pd ps pm d) (hcr : d.cr = false) (hlo : d.lo = false) (hi : i < 0 ∨ d.n ≤ i) :
    Calls Tryd.prog 7 #[.pointer (some ⟨pd, 0, none⟩), .int .i64 i, v] w fun e w' => e = .returned (.iface 38 (.int .i64 4)) ∧ w = w' := by
  have c0 := h.c0
  have c2 := h.c2
  have c3 := h.c3
  rw [hcr] at c2
  rw [hlo] at c3
  clear hcr hlo
  go_enter Tryd.func7, Tryd.ntmps7
  go_wp2_with fail
  refine (reach_out _ _ _ _ _ c0 c2 c3 hi).mono ?_
  rintro e w' ⟨rfl, rfl⟩
  go_wp2
  go_ret
  exact ⟨rfl, rfl⟩

/-- Write of too much: ErrLong, nothing is done. -/
theorem write_long (w : World) (pd ps pm : Nat) (d : DS) (i : Nat) (sp : Option Addr) (n cap : Nat) (h : DevAt w pd ps pm d) (hcr : d.cr = false) (hlo : d.lo = false) (hi : i < d.n) (hn : 64 < n) :
    Calls Tryd.prog 7 #[.pointer (some ⟨pd, 0, none⟩), .int .i64 i, .slice sp n cap] w fun e w' => e = .returned (.iface 38 (.int .i64 2)) ∧ w = w' := by
  have c0 := h.c0
  have c2 := h.c2
  have c3 := h.c3
  rw [hcr] at c2
  rw [hlo] at c3
  clear hcr hlo
  go_enter Tryd.func7, Tryd.ntmps7
  go_wp2_with fail
  refine (reach_in _ _ _ _ _ c0 c2 c3 (by omega) (by omega)).mono ?_
  rintro e w' ⟨rfl, rfl⟩
  go_wp2
  go_ret
  exact ⟨rfl, rfl⟩

/-- 64 cells that hold a sector's bytes. -/
def Holds64 (w : World) (g : Nat) (l : List UInt8) : Prop := ∀ j, j < 64 → w.cell? ⟨g, j, none⟩ = (cellsB l)[j]?
theorem Holds64.stay {w w' : World} {g : Nat} {l : List UInt8} {X : Nat → Prop} (h : Holds64 w g l) (hl : l.length = 64) (hs : Stay X w w') (hx : ¬ X g) : Holds64 w' g l := by
  intro j hj
  have e : (cellsB l)[j]? = some ((cellsB l)[j]'(by rw [length_cellsB, hl]; exact hj)) := List.getElem?_eq_getElem _
  rw [e]; exact hs.cell ((h j hj).trans e) hx
theorem holds64_row {w : World} {g : Nat} {l : List UInt8} {t : TypeId} (h : w.heap[g]? = some (.cells (cellsB l).toArray t (0, 0))) : Holds64 w g l := by
  intro j _
  rw [cell_of_row w g j _ _ _ h]
  simp

def strOf (l : List UInt8) : ByteArray := ⟨l.toArray⟩
theorem conv_sec {w : World} {g cap : Nat} {l : List UInt8} (h : Holds64 w g l) (hl : l.length = 64) : (convert 22 9 (.slice (some ⟨g, 0, none⟩) 64 cap)).run Tryd.prog w = .ok (.string (strOf l)) w := by
  have := run_convert_bytes_back (P := Tryd.prog) w 22 9 5 ⟨g, 0, none⟩ cap l Tryd.underlying22 Tryd.underlying5 Tryd.underlying9 (fun j hj => by
    rw [add_at, Nat.zero_add, h j (by omega)]
    simp [cellsB, hj, byteV])
  rw [hl] at this
  exact this

theorem make64 (w : World) : (Instr.makeSlice 22 (.int .i64 64) (.int .i64 64)).run Tryd.prog w = .ok (.slice (some ⟨w.heap.size, 0, none⟩) 64 64) (w.alloc (.cells (cellsB zsec).toArray 5)) := by
  obtain ⟨i0, hi, hz0, hz1, hz2⟩ := info_parts u8Info
  have hm := run_make (P := Tryd.prog) w 22 5 i0 (.int .u8 0) Tryd.underlying22 hi hz0 .i64 .i64 64 64 (by omega) (Int.le_refl _) (by rw [hz2]; omega) (by omega)
  rw [hz1] at hm
  rw [hm]
  have hz : madeCells (Value.int IntKind.u8 0).cells ((64 : Int).toNat * 1) = (cellsB zsec).toArray := by
    rw [made_zeros _ (by decide) (by rfl)]
    simp only [zeros, cellsB, zsec, List.map_replicate, List.toArray_replicate]
    rfl
  rw [hz]
  rfl

end Go.Proofs.YtobofagalblhiaaDoor
