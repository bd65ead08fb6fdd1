/-
  dev: the contracts of spend and New.
-/
import Derived.Test.YthbcgimmbcdnmaaDoorDevA
import Derived.Maps.OwnSet
import Derived.Laws.Rows
import Derived.Laws.CopyOwn
namespace Go.Proofs.YthbcgimmbcdnmaaDoor
open Go.RowKit Go.Maps
set_option maxRecDepth 100000

theorem spend_free (pd : Nat) (w : World) (c4 : w.cell? ⟨pd, 4, none⟩ = some (.bool false)) :
    Calls Tryd.prog 58 #[.pointer (some ⟨pd, 0, none⟩)] w fun e w' => e = .returned .nilIface ∧ w = w' := by
  go_enter Tryd.func58, Tryd.ntmps58
  go_wp2
  go_ret
  exact ⟨rfl, rfl⟩

theorem spend_some (pd : Nat) (left : Int) (w : World) (c4 : w.cell? ⟨pd, 4, none⟩ = some (.bool true)) (c5 : w.cell? ⟨pd, 5, none⟩ = some (.int .i64 left))
    (f5 : w.frozen? ⟨pd, 5, none⟩ = false) (h0 : 0 < left) (h1 : left ≤ 9223372036854775807) :
    Calls Tryd.prog 58 #[.pointer (some ⟨pd, 0, none⟩)] w fun e w' => e = .returned .nilIface ∧ w' = w.setCell ⟨pd, 5, none⟩ (.int .i64 (left - 1)) := by
  have hb : (left == 0) = false := beq_eq_false_iff_ne.2 (by omega)
  go_enter Tryd.func58, Tryd.ntmps58
  go_wp2
  go_ret
  exact ⟨rfl, rfl⟩

theorem spend_none (pd : Nat) (w : World) (c4 : w.cell? ⟨pd, 4, none⟩ = some (.bool true)) (c5 : w.cell? ⟨pd, 5, none⟩ = some (.int .i64 0))
    (c2 : w.cell? ⟨pd, 2, none⟩ = some (.bool false)) (f2 : w.frozen? ⟨pd, 2, none⟩ = false) :
    Calls Tryd.prog 58 #[.pointer (some ⟨pd, 0, none⟩)] w fun e w' => e = .returned (.iface 50 (.int .i64 13)) ∧ w' = w.setCell ⟨pd, 2, none⟩ (.bool true) := by
  go_enter Tryd.func58, Tryd.ntmps58
  go_wp2
  go_ret
  exact ⟨rfl, rfl⟩

/-- k bytes that are nought. -/
def zeros (k : Nat) : Array Value := Array.replicate k (.int .u8 0)
theorem size_zeros (k : Nat) : (zeros k).size = k := by simp [zeros]

theorem made_zeros (z : Array Value) (h0 : 0 < z.size) (h : z = zeros z.size) (k : Nat) : madeCells z k = zeros k := by
  unfold madeCells
  apply Array.ext
  · simp [size_zeros]
  · intro i h1 h2
    have hm : i % z.size < z.size := Nat.mod_lt _ h0
    simp only [Array.getElem_map, Array.getElem_range]
    rw [getElem!_pos z _ hm]
    have : ∀ (j : Nat) (hj : j < z.size), z[j] = .int .u8 0 := by
      intro j hj
      have e : z[j] = (zeros z.size)[j]'(by rw [size_zeros]; exact hj) := by congr 1
      rw [e]; simp [zeros]
    rw [this _ hm]; simp [zeros]

def blkZero : Value := .agg (zeros 64)

theorem blkInfo : (Tryd.prog.info? 84).map (fun i => (i.zero, i.size, i.bytes)) = some (some blkZero, 64, 64) := by kernel_rfl

theorem new_yes (n : Nat) (w : World) (h0 : 1 ≤ n) (h1 : n ≤ 16384) :
    Calls Tryd.prog 5 #[.int .i64 n] w fun e w' => e = .returned (.tuple #[.pointer (some ⟨w.heap.size + 1 + 1, 0, none⟩), .nilIface]) ∧
      w' = ((w.alloc (.cells (zeros (n * 64)) 84)).alloc (.map #[] 0)).alloc (.cells (hdr w.heap.size n (w.heap.size + 1) false false false 0 0) 54) := by
  obtain ⟨i0, hi, hz0, hz1, hz2⟩ := info_parts blkInfo
  have hm := run_make (P := Tryd.prog) w 51 84 i0 blkZero Tryd.underlying51 hi hz0 .i64 .i64 n n (by omega) (Int.le_refl _) (by rw [hz2]; omega) (by omega)
  rw [hz1, Int.toNat_natCast, made_zeros _ (by simp [blkZero, Value.cells, size_zeros]) (by simp [blkZero, Value.cells, size_zeros])] at hm
  clear hi hz0 hz1 hz2
  have hmm := @run_makeMap Tryd.prog
  go_enter Tryd.func5, Tryd.ntmps5
  go_wp2
  go_ret2
  exact ⟨rfl, rfl⟩

theorem new_no (n : Int) (w : World) (h : n < 1 ∨ 16384 < n) :
    Calls Tryd.prog 5 #[.int .i64 n] w fun e w' => e = .returned (.tuple #[.pointer none, .iface 50 (.int .i64 1)]) ∧ w = w' := by
  rcases h with h | h
  · go_enter Tryd.func5, Tryd.ntmps5
    go_wp2
    go_ret2
    exact ⟨rfl, rfl⟩
  · have h' : ¬ n < 1 := by omega
    go_enter Tryd.func5, Tryd.ntmps5
    go_wp2
    go_ret2
    exact ⟨rfl, rfl⟩

end Go.Proofs.YthbcgimmbcdnmaaDoor
