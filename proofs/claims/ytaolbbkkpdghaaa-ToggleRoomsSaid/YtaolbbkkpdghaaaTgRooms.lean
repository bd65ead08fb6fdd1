/-
  ToggleRooms' walk: Room is what the document's Room is, in whatever area.
-/
import Derived.Test.YtaolbbkkpdghaaaTgS
namespace Go.Proofs.Ytaolbbkkpdghaaa.Tg
open Go.RowKit Pk
set_option maxRecDepth 100000

theorem rhalf_any (f s : Int) (w : World) (h0 : 3 ≤ s) (h1 : s ≤ 9223372036854775807) :
    Calls Try.prog 8 #[areaV f s] w fun e w' => e = .returned (.int .i64 ((s - 1) / 2)) ∧ Stay (fun _ => False) w w' := by
  have e1 : wrap64 (s - 1) = s - 1 := by unfold wrap64; omega
  have e2 : (s - 1).tdiv 2 = (s - 1) / 2 := Int.tdiv_eq_ediv_of_nonneg (by omega)
  have e3 : wrap64 ((s - 1) / 2) = (s - 1) / 2 := by unfold wrap64; omega
  unfold areaV
  go_enter Try.func8, Try.ntmps8
  go_wp2
  go_ret
  exact ⟨rfl, Stay.alloc _ _⟩

theorem rroom_any (f s : Int) (w : World) :
    Calls Try.prog 5 #[areaV f s, .int .i64 16384] w fun e w' => e = .returned (.int .i64 (roomI s)) ∧ Stay (fun _ => False) w w' := by
  by_cases h1 : s < 3
  · have e1 : roomI s = 0 := if_pos (Or.inl h1)
    rw [e1]
    unfold areaV
    go_enter Try.func5, Try.ntmps5
    go_wp2
    go_ret
    exact ⟨rfl, Stay.alloc _ _⟩
  by_cases h2 : 16384 < s
  · have e1 : roomI s = 0 := if_pos (Or.inr h2)
    rw [e1]
    unfold areaV
    go_enter Try.func5, Try.ntmps5
    go_wp2
    go_ret
    exact ⟨rfl, Stay.alloc _ _⟩
  · have e1 : roomI s = 64 * ((s - 1) / 2) := if_neg (by omega)
    rw [e1]
    have hh := fun w => rhalf_any f s w (by omega) (by omega)
    unfold areaV at hh ⊢
    go_enter Try.func5, Try.ntmps5
    go_wp2_with fail
    refine (hh _).mono ?_
    rintro e w' ⟨rfl, hs⟩
    go_wp2
    go_ret
    exact ⟨rfl, (Stay.alloc _ _).trans hs⟩

theorem rooms_walk (f s : Int) (w : World) :
    Calls Try.prog 3 #[areaV f s] w fun e w' => e = .returned (.bool true) ∧ Stay (fun _ => False) w w' := by
  have h1 := fun W => room_any f s W
  have h2 := fun W => rroom_any f s W
  generalize roomI s = rv at h1 h2
  unfold areaV at h1 h2 ⊢
  have H1' := Lib.hid h1
  have H2' := Lib.hid h2
  clear h1 h2
  go_enter Try.func3, Try.ntmps3
  go_wp2
  obtain ⟨w1, hw1⟩ : ∃ w1, w.alloc (.cells #[.int .i64 f, .int .i64 s] 23) = w1 := ⟨_, rfl⟩
  have hb : w1.heap[w.heap.size]? = some (.cells #[.int .i64 f, .int .i64 s] 23 (0, 0)) := hw1 ▸ heap_alloc_new w _
  have HST := Lib.hid (show Stay (fun _ => False) w w1 from hw1 ▸ Stay.alloc _ _)
  rw [hw1]
  clear hw1
  obtain ⟨D, hDd⟩ : ∃ D : World → Prop, D = Stay (fun _ => False) w1 := ⟨_, rfl⟩
  have HD := Lib.hid (show ∀ W, D W → Stay (fun _ => False) w1 W by intro W h; rw [hDd] at h; exact h)
  have HDm := Lib.hid (show ∀ W, Stay (fun _ => False) w1 W → D W by intro W h; rw [hDd]; exact h)
  clear hDd
  have HN0 := Lib.hid (HDm.out w1.drew Stay.drew)
  have k0 : ∀ i : InC D, i.w.cell? ⟨w.heap.size, 0, none⟩ = some (.int .i64 f) := fun i => cell_of_row i.w _ 0 _ _ _ (((HD.out _ i.h).block _ (lt_of_block hb) (fun x => x)).trans hb)
  have k1 : ∀ i : InC D, i.w.cell? ⟨w.heap.size, 1, none⟩ = some (.int .i64 s) := fun i => cell_of_row i.w _ 1 _ _ _ (((HD.out _ i.h).block _ (lt_of_block hb) (fun x => x)).trans hb)
  have H1 := Lib.hid (show ∀ W, D W → Calls Try.prog 4 #[.agg #[.int .i64 f, .int .i64 s]] W fun e w' => e = .returned (.int .i64 rv) ∧ D w' from fun W h => (H1'.out W).mono fun e w' ⟨h1, h2⟩ => ⟨h1, HDm.out _ ((HD.out W h).trans h2)⟩)
  have H2 := Lib.hid (show ∀ W, D W → Calls Try.prog 5 #[.agg #[.int .i64 f, .int .i64 s], .int .i64 16384] W fun e w' => e = .returned (.int .i64 rv) ∧ D w' from fun W h => (H2'.out W).mono fun e w' ⟨h1, h2⟩ => ⟨h1, HDm.out _ ((HD.out W h).trans h2)⟩)
  have H3 := Lib.hid (show ∀ W, D W → Calls Try.prog 6 #[] W fun e w' => e = .returned (.bool true) ∧ D w' from fun W h => (sure_any W).mono fun e w' ⟨h1, h2⟩ => ⟨h1, HDm.out _ ((HD.out W h).trans h2)⟩)
  clear hb
  haveI : Nonempty (InC D) := ⟨⟨_, HN0.out⟩⟩
  refine wp_region_class D HN0.out (by kernel_rfl) (by kernel_rfl) ?_
  repeat (go_big_quiet_step ((first
    | with_reducible exact calls_class H1.out
    | with_reducible exact calls_class H2.out
    | with_reducible exact calls_class H3.out)))
  refine wpQuiet_nil ?_
  rintro W ⟨i, rfl⟩
  have hst := HD.out _ i.h
  clear k0 k1
  generalize i.w = w9 at *
  go_wp2
  go_ret
  exact ⟨rfl, HST.out.trans hst⟩

end Go.Proofs.Ytaolbbkkpdghaaa.Tg
