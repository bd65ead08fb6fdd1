/-
  mem: New, the entries themselves, how keys are compared, where a key stands.
-/
import Derived.Test.YtnhcnikickihgaaMeA
namespace Go.Proofs.Ytnhcnikickihgaa.Me
open Go.RowKit Go.Maps
set_option maxRecDepth 100000
set_option linter.unusedVariables false

theorem new_any (w : World) : Calls Try.prog 7 #[] w fun e w' => e = .returned (.pointer (some ⟨w.heap.size, 0, none⟩)) ∧ MAt (fun k => k = w.heap.size) w' w.heap.size [] ∧ Stay (fun _ => False) w w' := by
  have h1 := heap_alloc_new w (.cells #[.slice none 0 0] 43)
  have h2 : Stay (fun _ => False) w (w.alloc (.cells #[.slice none 0 0] 43)) := Stay.alloc _ _
  have H1 := Lib.hid h1
  have H2 := Lib.hid h2
  clear h1 h2
  go_enter Try.func7, Try.ntmps7
  go_wp2
  go_ret
  exact ⟨rfl, ⟨⟨_, H1.out, EnO.nil _ _, fun k hk => by cases hk⟩, rfl, sorted_nil⟩, H2.out⟩

theorem all_any (w : World) (pv : Value) (L : List En) (h : MR w pv L) : Calls Try.prog 24 #[pv] w fun e w' => ∃ x, e = .returned x ∧ EnS w x L ∧ w = w' := by
  rcases h with ⟨rfl, rfl⟩ | ⟨p, v, rfl, hc, hs⟩
  · go_enter Try.func24, Try.ntmps24
    go_wp2
    go_ret
    exact ⟨_, rfl, EnS.nil w, rfl⟩
  · have HS := Lib.hid hs
    obtain ⟨a, c, rfl⟩ := hs.form
    clear hs
    go_enter Try.func24, Try.ntmps24
    go_wp2
    go_ret
    exact ⟨_, rfl, HS.out, rfl⟩

theorem run_cmp (w : World) (p q : List UInt8) : (callFunc 33 #[strV p, strV q]).run Try.prog w = .ok (.value (.int .i64 (Lib.compareBytes p q))) w := by
  rw [run_callFunc_extern Try.func33 (by kernel_rfl) (by kernel_rfl) (by kernel_rfl) (e := Extern.BytealgCompare.compare) (by kernel_rfl), Lib.run_compareString]
  rfl
theorem compare_in (w : World) (p q : List UInt8) : Calls Try.prog 31 #[strV p, strV q] w fun e w' => e = .returned (.int .i64 (Lib.compareBytes p q)) ∧ w = w' := by
  have hc := run_cmp w p q
  go_enter Try.func31, Try.ntmps31
  go_wp2_with (simp only [hc])
  go_ret
  exact ⟨rfl, rfl⟩
theorem compare_any (w : World) (p q : List UInt8) : Calls Try.prog 28 #[strV p, strV q] w fun e w' => e = .returned (.int .i64 (Lib.compareBytes p q)) ∧ w = w' := by
  go_enter Try.func28, Try.ntmps28
  go_wp2_with fail
  refine (compare_in w p q).mono ?_
  rintro e w' ⟨rfl, rfl⟩
  go_wp2
  go_ret
  exact ⟨rfl, rfl⟩
/-- The comparison that place hands on. -/
theorem cmp_any (w : World) (e : En) (k : List UInt8) : Calls Try.prog 27 #[enV e, strV k] w fun x w' => x = .returned (.int .i64 (Lib.compareBytes e.k k)) ∧ Stay (fun _ => False) w w' := by
  have H2 := Lib.hid (show Stay (fun _ => False) w (w.alloc (.cells (enC e).toArray 27)) from Stay.alloc _ _)
  unfold enV enC at *
  go_enter Try.func27, Try.ntmps27
  go_wp2_with fail
  refine (compare_any _ e.k k).mono ?_
  rintro x w' ⟨rfl, rfl⟩
  go_wp2
  go_ret
  exact ⟨rfl, H2.out⟩
end Go.Proofs.Ytnhcnikickihgaa.Me
