/-
  rs: New, Data, Parity, parts.
-/
import Derived.Test.YtaldpfamgfchoabRsM
namespace Go.Proofs.Ytaldpfamgfchoab.Rs
open Go.RowKit Gf
set_option maxRecDepth 100000

theorem new_bad (w : World) (K M : Int) (hM : M ≤ 9223372036854775807) (h : K < 1 ∨ M < 0 ∨ 32 - M < K) :
    Calls Try.prog 4 #[.int .i64 K, .int .i64 M] w fun e w' => e = .returned (.tuple #[.pointer none, .iface 42 (.int .i64 1)]) ∧ w' = w := by
  by_cases h1 : K < 1
  · clear h
    go_enter Try.func4, Try.ntmps4
    go_wp2
    go_ret2
    exact ⟨rfl, rfl⟩
  · by_cases h2 : M < 0
    · clear h
      go_enter Try.func4, Try.ntmps4
      go_wp2
      go_ret2
      exact ⟨rfl, rfl⟩
    · have h3 : 32 - M < K := by omega
      have h4 : IntKind.i64.wrap (32 - M) = 32 - M := by rw [IntKind.wrap_i64]; omega
      clear h hM
      go_enter Try.func4, Try.ntmps4
      go_wp2
      go_ret2
      exact ⟨rfl, rfl⟩

theorem new_good (w : World) (k m : Nat) (h1 : 1 ≤ k) (h2 : k + m ≤ 32) :
    Calls Try.prog 4 #[.int .i64 (k : Int), .int .i64 (m : Int)] w fun e w' => ∃ c, e = .returned (.tuple #[.pointer (some ⟨c, 0, none⟩), .nilIface]) ∧ w.heap.size ≤ c ∧ Cd w' c w.heap.size k m ∧ Stay (fun _ => False) w w' := by
  have q1 : ¬ (k : Int) < 1 := by omega
  have q2 : ¬ (m : Int) < 0 := by omega
  have q3 : ¬ (32 : Int) - (m : Int) < (k : Int) := by omega
  have H1 := Lib.hid h1
  have H2 := Lib.hid h2
  have q4 : (m : Int) ≤ 32 := by omega
  clear h1 h2
  go_enter Try.func4, Try.ntmps4
  go_wp2_with fail
  refine (new_any w).mono ?_
  rintro e w1 ⟨rfl, h1, s1⟩
  have F1 := Lib.hid h1
  have S1 := Lib.hid s1
  clear h1 s1
  go_wp2
  go_ret2
  refine ⟨_, rfl, S1.out.size, ⟨heap_alloc_new _ _, F1.out.stay (Stay.alloc (X := fun _ => False) w1 _) (fun x => x), ?_, H1.out, H2.out⟩, S1.out.trans (Stay.alloc w1 _)⟩
  have := F1.out.lt
  omega

section
variable {w : World} {c g k m : Nat}
theorem data_any (h : Cd w c g k m) : Calls Try.prog 12 #[.pointer (some ⟨c, 0, none⟩)] w fun e w' => e = .returned (.int .i64 (k : Int)) ∧ w' = w := by
  have c0 := h.c0
  clear h
  go_enter Try.func12, Try.ntmps12
  go_wp2
  go_ret
  exact ⟨rfl, rfl⟩
theorem parity_any (h : Cd w c g k m) : Calls Try.prog 21 #[.pointer (some ⟨c, 0, none⟩)] w fun e w' => e = .returned (.int .i64 (m : Int)) ∧ w' = w := by
  have c0 := h.c1
  clear h
  go_enter Try.func21, Try.ntmps21
  go_wp2
  go_ret
  exact ⟨rfl, rfl⟩
theorem parts_any (h : Cd w c g k m) : Calls Try.prog 15 #[.pointer (some ⟨c, 0, none⟩)] w fun e w' => e = .returned (.int .i64 ((k + m : Nat) : Int)) ∧ w' = w := by
  have H := Lib.hid h
  have q1 : (k : Int) + (m : Int) ≤ 32 := by have := h.km; omega
  clear h
  go_enter Try.func15, Try.ntmps15
  go_wp2_with fail
  refine (data_any H.out).mono ?_
  rintro e w' ⟨rfl, rfl⟩
  go_wp2_with fail
  refine (parity_any H.out).mono ?_
  rintro e w' ⟨rfl, rfl⟩
  go_wp2
  go_ret
  exact ⟨by go_num, rfl⟩
theorem data_nil (w : World) : Calls Try.prog 12 #[.pointer none] w fun e w' => e = .returned (.int .i64 0) ∧ w' = w := by
  go_enter Try.func12, Try.ntmps12
  go_wp2
  go_ret
  exact ⟨rfl, rfl⟩
theorem parity_nil (w : World) : Calls Try.prog 21 #[.pointer none] w fun e w' => e = .returned (.int .i64 0) ∧ w' = w := by
  go_enter Try.func21, Try.ntmps21
  go_wp2
  go_ret
  exact ⟨rfl, rfl⟩
theorem parts_nil (w : World) : Calls Try.prog 15 #[.pointer none] w fun e w' => e = .returned (.int .i64 0) ∧ w' = w := by
  go_enter Try.func15, Try.ntmps15
  go_wp2_with fail
  refine (data_nil w).mono ?_
  rintro e w' ⟨rfl, rfl⟩
  go_wp2_with fail
  refine (parity_nil w').mono ?_
  rintro e w' ⟨rfl, rfl⟩
  go_wp2
  go_ret
  exact ⟨rfl, rfl⟩
end
end Go.Proofs.Ytaldpfamgfchoab.Rs
