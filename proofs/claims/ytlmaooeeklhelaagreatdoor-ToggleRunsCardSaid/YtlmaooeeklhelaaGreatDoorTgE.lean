/-
  toggle: how many sectors a place has, how many bytes a text may have, where a place begins, whether an area is in a device.
-/
import Derived.Test.YtlmaooeeklhelaaGreatDoorTgB
import Derived.Test.YtlmaooeeklhelaaGreatDoorClass
namespace Go.Proofs.YtlmaooeeklhelaaGreatDoor.Tg
open Go.RowKit Pk
set_option maxRecDepth 100000

/-- An area, as a value. -/
def areaV (f s : Int) : Value := .agg #[.int .i64 f, .int .i64 s]

/-- What an int can be. -/
def I64 (x : Int) : Prop := -9223372036854775808 ≤ x ∧ x ≤ 9223372036854775807

theorem half_any (f s : Int) (w : World) (h0 : 3 ≤ s) (h1 : s ≤ 9223372036854775807) :
    Calls Tryz.prog 53 #[areaV f s] w fun e w' => e = .returned (.int .i64 ((s - 1) / 2)) ∧ Stay (fun _ => False) w w' := by
  have e1 : wrap64 (s - 1) = s - 1 := by unfold wrap64; omega
  have e2 : (s - 1).tdiv 2 = (s - 1) / 2 := Int.tdiv_eq_ediv_of_nonneg (by omega)
  have e3 : wrap64 ((s - 1) / 2) = (s - 1) / 2 := by unfold wrap64; omega
  unfold areaV
  go_enter Tryz.func53, Tryz.ntmps53
  go_wp2
  go_ret
  exact ⟨rfl, Stay.alloc _ _⟩

/-- Room, as a function. -/
def roomI (s : Int) : Int := if s < 3 ∨ 16384 < s then 0 else 64 * ((s - 1) / 2)

theorem room_any (f s : Int) (w : World) :
    Calls Tryz.prog 35 #[areaV f s] w fun e w' => e = .returned (.int .i64 (roomI s)) ∧ Stay (fun _ => False) w w' := by
  by_cases h1 : s < 3
  · have e1 : roomI s = 0 := if_pos (Or.inl h1)
    rw [e1]
    unfold areaV
    go_enter Tryz.func35, Tryz.ntmps35
    go_wp2
    go_ret
    exact ⟨rfl, Stay.alloc _ _⟩
  by_cases h2 : 16384 < s
  · have e1 : roomI s = 0 := if_pos (Or.inr h2)
    rw [e1]
    unfold areaV
    go_enter Tryz.func35, Tryz.ntmps35
    go_wp2
    go_ret
    exact ⟨rfl, Stay.alloc _ _⟩
  · have e1 : roomI s = 64 * ((s - 1) / 2) := if_neg (by omega)
    rw [e1]
    have hh := fun w => half_any f s w (by omega) (by omega)
    unfold areaV at hh ⊢
    go_enter Tryz.func35, Tryz.ntmps35
    go_wp2_with fail
    refine (hh _).mono ?_
    rintro e w' ⟨rfl, hs⟩
    go_wp2
    go_ret
    exact ⟨rfl, (Stay.alloc _ _).trans hs⟩

/-- The area is in a device of n sectors. -/
def inB (f s n : Int) : Bool := decide (0 ≤ f ∧ 3 ≤ s ∧ f ≤ n - s)

theorem in_any (f s : Int) (w : World) (pd ps pm : Nat) (d : DS) (h : DevAt w pd ps pm d) (hf : I64 f) (hs : I64 s) :
    Calls Tryz.prog 49 #[areaV f s, .pointer (some ⟨pd, 0, none⟩)] w fun e w' => e = .returned (.bool (inB f s d.n)) ∧ Stay (fun _ => False) w w' := by
  obtain ⟨f0, f1⟩ := hf
  obtain ⟨s0, s1⟩ := hs
  have hn1 := h.n1
  have hn2 := h.n2
  by_cases h1 : 0 ≤ f ∧ 3 ≤ s ∧ f ≤ d.n - s
  · obtain ⟨h1, h2, h3⟩ := h1
    have e1 : inB f s d.n = true := by simp [inB]; omega
    rw [e1]
    unfold areaV
    go_enter Tryz.func49, Tryz.ntmps49
    go_wp2
    have hd : ∀ q, DevAt ((w.alloc (.cells #[.int .i64 f, .int .i64 s] 36)).drewN q) pd ps pm d := fun q => (h.alloc _).stay (stay_drewN (X := fun _ => False) _ q) (fun x => x) (fun x => x) (fun x => x)
    go_quiet ((go_at_call 71; exact Calls.quiet_of_same (sectors_any _ pd ps pm d (hd _))))
    go_wp2
    go_ret
    exact ⟨rfl, (Stay.alloc _ _).trans (stay_drewN _ _)⟩
  · have e1 : inB f s d.n = false := by simp [inB]; omega
    rw [e1]
    by_cases h2 : 0 ≤ f
    · by_cases h3 : 3 ≤ s
      · have h4 : ¬ f ≤ d.n - s := by omega
        clear h1 e1
        unfold areaV
        go_enter Tryz.func49, Tryz.ntmps49
        go_wp2
        have hd : ∀ q, DevAt ((w.alloc (.cells #[.int .i64 f, .int .i64 s] 36)).drewN q) pd ps pm d := fun q => (h.alloc _).stay (stay_drewN (X := fun _ => False) _ q) (fun x => x) (fun x => x) (fun x => x)
        go_quiet ((go_at_call 71; exact Calls.quiet_of_same (sectors_any _ pd ps pm d (hd _))))
        go_wp2
        go_ret
        exact ⟨by simp [h4], (Stay.alloc _ _).trans (stay_drewN _ _)⟩
      · have h3c : decide (3 ≤ s) = false := by simpa using h3
        clear h1 e1
        unfold areaV
        go_enter Tryz.func49, Tryz.ntmps49
        go_wp2
        have hd : ∀ q, DevAt ((w.alloc (.cells #[.int .i64 f, .int .i64 s] 36)).drewN q) pd ps pm d := fun q => (h.alloc _).stay (stay_drewN (X := fun _ => False) _ q) (fun x => x) (fun x => x) (fun x => x)
        go_quiet ((go_at_call 71; exact Calls.quiet_of_same (sectors_any _ pd ps pm d (hd _))))
        go_wp2
        go_ret
        exact ⟨rfl, (Stay.alloc _ _).trans (stay_drewN _ _)⟩
    · have h2c : decide (0 ≤ f) = false := by simpa using h2
      clear h1 e1
      unfold areaV
      go_enter Tryz.func49, Tryz.ntmps49
      go_wp2
      have hd : ∀ q, DevAt ((w.alloc (.cells #[.int .i64 f, .int .i64 s] 36)).drewN q) pd ps pm d := fun q => (h.alloc _).stay (stay_drewN (X := fun _ => False) _ q) (fun x => x) (fun x => x) (fun x => x)
      go_quiet ((go_at_call 71; exact Calls.quiet_of_same (sectors_any _ pd ps pm d (hd _))))
      go_wp2
      go_ret
      exact ⟨rfl, (Stay.alloc _ _).trans (stay_drewN _ _)⟩

end Go.Proofs.YtlmaooeeklhelaaGreatDoor.Tg
