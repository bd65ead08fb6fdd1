/-
  dev: the header of a device in memory, and the contracts of Down, awake, reach.
-/
import Derived.Test.YthbcgimmbcdnmaaDoorRows
import Derived.WalkKit
import Derived.WalkSpells
import Derived.WalkLawsBesides
import Derived.Lib.Hide
namespace Go.Proofs.YthbcgimmbcdnmaaDoor
open Go.RowKit
set_option maxRecDepth 100000

/-- The seven cells of a device's struct. -/
def hdr (ps n pm : Nat) (cr lo ar : Bool) (left wr : Int) : Array Value :=
  #[.slice (some ⟨ps, 0, none⟩) n n, .map (some pm), .bool cr, .bool lo, .bool ar, .int .i64 left, .int .i64 wr]

theorem down_yes (pd : Nat) (cr lo : Bool) (w : World) (c2 : w.cell? ⟨pd, 2, none⟩ = some (.bool cr)) (c3 : w.cell? ⟨pd, 3, none⟩ = some (.bool lo)) :
    Calls Tryd.prog 66 #[.pointer (some ⟨pd, 0, none⟩)] w fun e w' => e = .returned (.bool (cr || lo)) ∧ w = w' := by
  go_enter Tryd.func66, Tryd.ntmps66
  cases cr
  · go_wp2
    go_ret
    exact ⟨rfl, rfl⟩
  · go_wp2
    go_ret
    exact ⟨rfl, rfl⟩

theorem awake_up (pd : Nat) (w : World) (c2 : w.cell? ⟨pd, 2, none⟩ = some (.bool false)) (c3 : w.cell? ⟨pd, 3, none⟩ = some (.bool false)) :
    Calls Tryd.prog 51 #[.pointer (some ⟨pd, 0, none⟩)] w fun e w' => e = .returned .nilIface ∧ w = w' := by
  go_enter Tryd.func51, Tryd.ntmps51
  go_wp2_with (go_at_call 66; refine (down_yes _ _ _ _ c2 c3).mono ?_; rintro e w' ⟨rfl, rfl⟩)
  go_ret
  exact ⟨rfl, rfl⟩

theorem awake_down (pd : Nat) (cr lo : Bool) (w : World) (c2 : w.cell? ⟨pd, 2, none⟩ = some (.bool cr)) (c3 : w.cell? ⟨pd, 3, none⟩ = some (.bool lo)) (h : (cr || lo) = true) :
    Calls Tryd.prog 51 #[.pointer (some ⟨pd, 0, none⟩)] w fun e w' => e = .returned (.iface 50 (.int .i64 13)) ∧ w = w' := by
  go_enter Tryd.func51, Tryd.ntmps51
  go_wp2_with (go_at_call 66; refine (down_yes _ _ _ _ c2 c3).mono ?_; rintro e w' ⟨rfl, rfl⟩)
  go_ret
  exact ⟨rfl, rfl⟩

theorem reach_in (pd ps n : Nat) (i : Int) (w : World) (c0 : w.cell? ⟨pd, 0, none⟩ = some (.slice (some ⟨ps, 0, none⟩) n n)) (c2 : w.cell? ⟨pd, 2, none⟩ = some (.bool false)) (c3 : w.cell? ⟨pd, 3, none⟩ = some (.bool false))
    (h0 : 0 ≤ i) (h1 : i < n) :
    Calls Tryd.prog 57 #[.pointer (some ⟨pd, 0, none⟩), .int .i64 i] w fun e w' => e = .returned .nilIface ∧ w = w' := by
  go_enter Tryd.func57, Tryd.ntmps57
  go_wp2_with (go_at_call 51; refine (awake_up _ _ c2 c3).mono ?_; rintro e w' ⟨rfl, rfl⟩)
  go_ret
  exact ⟨rfl, rfl⟩

theorem reach_out (pd ps n : Nat) (i : Int) (w : World) (c0 : w.cell? ⟨pd, 0, none⟩ = some (.slice (some ⟨ps, 0, none⟩) n n)) (c2 : w.cell? ⟨pd, 2, none⟩ = some (.bool false)) (c3 : w.cell? ⟨pd, 3, none⟩ = some (.bool false))
    (h : i < 0 ∨ n ≤ i) :
    Calls Tryd.prog 57 #[.pointer (some ⟨pd, 0, none⟩), .int .i64 i] w fun e w' => e = .returned (.iface 50 (.int .i64 4)) ∧ w = w' := by
  rcases h with h | h
  · go_enter Tryd.func57, Tryd.ntmps57
    go_wp2_with (go_at_call 51; refine (awake_up _ _ c2 c3).mono ?_; rintro e w' ⟨rfl, rfl⟩)
    go_ret
    exact ⟨rfl, rfl⟩
  · have h' : ¬ i < 0 := by omega
    go_enter Tryd.func57, Tryd.ntmps57
    go_wp2_with (go_at_call 51; refine (awake_up _ _ c2 c3).mono ?_; rintro e w' ⟨rfl, rfl⟩)
    go_ret
    exact ⟨rfl, rfl⟩

end Go.Proofs.YthbcgimmbcdnmaaDoor
