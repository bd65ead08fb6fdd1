/-
  toggle: where a place begins; a teller as bytes.
-/
import Derived.Test.YtlmaooeeklhelaaGreatDoorTgE
import Derived.Test.YtlmaooeeklhelaaGreatDoorHeld
namespace Go.Proofs.YtlmaooeeklhelaaGreatDoor.Tg
open Go.RowKit Pk
set_option maxRecDepth 100000

/-- place, as a function. -/
def placeI (f s : Int) (second : Bool) : Int := if second then f + 1 + (s - 1) / 2 else f + 1

theorem place_any (f s : Int) (b : Bool) (w : World) (f0 : 0 ≤ f) (f1 : f ≤ 16384) (s0 : 3 ≤ s) (s1 : s ≤ 16384) :
    Calls Tryz.prog 37 #[areaV f s, .bool b] w fun e w' => e = .returned (.int .i64 (placeI f s b)) ∧ Stay (fun _ => False) w w' := by
  cases b
  · unfold areaV placeI
    go_enter Tryz.func37, Tryz.ntmps37
    go_wp2
    go_ret
    exact ⟨rfl, Stay.alloc _ _⟩
  · have e1 : placeI f s true = f + 1 + (s - 1) / 2 := if_pos rfl
    rw [e1]
    clear e1
    obtain ⟨q, hq, hq0, hq1⟩ : ∃ q, q = (s - 1) / 2 ∧ 0 ≤ q ∧ q ≤ 16384 := ⟨_, rfl, by omega, by omega⟩
    have hh : ∀ W, Calls Tryz.prog 53 #[.agg #[.int .i64 f, .int .i64 s]] W fun e w' => e = .returned (.int .i64 q) ∧ Stay (fun _ => False) W w' := fun W => by rw [hq]; exact half_any f s W s0 (by omega)
    rw [← hq]
    clear hq
    have HH := Lib.hid hh
    clear hh
    unfold areaV
    go_enter Tryz.func37, Tryz.ntmps37
    go_wp2
    obtain ⟨D, hDd⟩ : ∃ D : World → Prop, D = Stay (fun _ => False) (w.alloc (.cells #[.int .i64 f, .int .i64 s] 36)) := ⟨_, rfl⟩
    have HD := Lib.hid (show ∀ W, D W → Stay (fun _ => False) (w.alloc (.cells #[.int .i64 f, .int .i64 s] 36)) W by intro W h; rw [hDd] at h; exact h)
    have HDm := Lib.hid (show ∀ W, Stay (fun _ => False) (w.alloc (.cells #[.int .i64 f, .int .i64 s] 36)) W → D W by intro W h; rw [hDd]; exact h)
    clear hDd
    have HN0 := Lib.hid (HDm.out _ Stay.drew)
    have hb := heap_alloc_new w (.cells #[.int .i64 f, .int .i64 s] 36)
    have k0 : ∀ i : InC D, i.w.cell? ⟨w.heap.size, 0, none⟩ = some (.int .i64 f) := fun i => cell_of_row i.w _ 0 _ _ _ (((HD.out _ i.h).block _ (by simp) (fun x => x)).trans hb)
    have k1 : ∀ i : InC D, i.w.cell? ⟨w.heap.size, 1, none⟩ = some (.int .i64 s) := fun i => cell_of_row i.w _ 1 _ _ _ (((HD.out _ i.h).block _ (by simp) (fun x => x)).trans hb)
    have H1 := Lib.hid (show ∀ W, D W → Calls Tryz.prog 53 #[.agg #[.int .i64 f, .int .i64 s]] W fun e w' => e = .returned (.int .i64 q) ∧ D w' from fun W h => (HH.out W).mono fun e w' ⟨h1, h2⟩ => ⟨h1, HDm.out _ ((HD.out W h).trans h2)⟩)
    clear hb
    haveI : Nonempty (InC D) := ⟨⟨_, HN0.out⟩⟩
    refine wp_region_class D HN0.out (by kernel_rfl) (by kernel_rfl) ?_
    repeat (go_big_quiet_step ((first
      | with_reducible exact calls_class H1.out)))
    refine wpQuiet_nil ?_
    rintro W ⟨i, rfl⟩
    have hst := HD.out _ i.h
    clear k0 k1
    generalize i.w = w9 at *
    go_wp2
    go_ret
    exact ⟨rfl, (Stay.alloc _ _).trans hst⟩

end Go.Proofs.YtlmaooeeklhelaaGreatDoor.Tg
