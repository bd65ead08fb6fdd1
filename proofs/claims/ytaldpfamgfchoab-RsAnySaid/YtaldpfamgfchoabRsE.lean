/-
  gf's laws: what holds between two calls (for whoever stands on gf).
-/
import Derived.Test.YtaldpfamgfchoabGfD
namespace Go.Proofs.Ytaldpfamgfchoab.Gf
open Go.RowKit
set_option maxRecDepth 100000

/-- Of what there was at first nothing has turned; the field that was made then is one. -/
structure DF (w0 w : World) : Prop where
  f : Fld w w0.heap.size
  s : Stay (fun _ => False) w0 w
section
variable {w0 w w' : World}
theorem DF.turn (h : DF w0 w) (hf : Fld w' w0.heap.size) (hs : Stay (· = w0.heap.size) w w') : DF w0 w' :=
  ⟨hf, h.s.andThen hs (fun i hi (e : i = w0.heap.size) => absurd e (Nat.ne_of_lt hi))⟩
theorem DF.keep (h : DF w0 w) (hs : Stay (fun _ => False) w w') : DF w0 w' := ⟨h.f.stay hs (fun x => x), h.s.trans hs⟩
end

theorem new_D (w : World) : Calls Try.prog 10 #[] w fun e w' => e = .returned (.pointer (some ⟨w.heap.size, 0, none⟩)) ∧ DF w w' :=
  (new_any w).mono fun _ _ ⟨h1, h2, h3⟩ => ⟨h1, h2, h3⟩
section
variable {w0 w : World}
theorem mul_D (h : DF w0 w) (a b : Nat) (ha : a < 256) (hb : b < 256) :
    Calls Try.prog 29 #[.pointer (some ⟨w0.heap.size, 0, none⟩), .int .u8 (a : Int), .int .u8 (b : Int)] w fun e w' => e = .returned (.int .u8 (mulN a b : Int)) ∧ DF w0 w' :=
  (mul_any w _ a b ha hb h.f).mono fun _ _ ⟨h1, h2, h3⟩ => ⟨h1, h.turn h2 h3⟩
theorem add_D (h : DF w0 w) (a b : Nat) (ha : a < 256) (hb : b < 256) :
    Calls Try.prog 30 #[.pointer (some ⟨w0.heap.size, 0, none⟩), .int .u8 (a : Int), .int .u8 (b : Int)] w fun e w' => e = .returned (.int .u8 ((a ^^^ b : Nat) : Int)) ∧ DF w0 w' :=
  (add_any w _ a b ha hb).mono fun _ _ ⟨h1, h2⟩ => ⟨h1, h2 ▸ h⟩
theorem exp_D (h : DF w0 w) (n : Int) :
    Calls Try.prog 27 #[.pointer (some ⟨w0.heap.size, 0, none⟩), .int .i64 n] w fun e w' => e = .returned (.int .u8 (expN n : Int)) ∧ DF w0 w' :=
  (exp_any w _ n h.f).mono fun _ _ ⟨h1, h2, h3⟩ => ⟨h1, h.turn h2 h3⟩
theorem inv_D (h : DF w0 w) (a : Nat) (h0 : a ≠ 0) (ha : a < 256) :
    Calls Try.prog 22 #[.pointer (some ⟨w0.heap.size, 0, none⟩), .int .u8 (a : Int)] w fun e w' => e = .returned (.tuple #[.int .u8 (invN a : Int), .nilIface]) ∧ DF w0 w' :=
  (inv_any w _ a h0 ha h.f).mono fun _ _ ⟨h1, h2, h3⟩ => ⟨h1, h.turn h2 h3⟩
theorem inv_Z (h : DF w0 w) :
    Calls Try.prog 22 #[.pointer (some ⟨w0.heap.size, 0, none⟩), .int .u8 0] w fun e w' => e = .returned (.tuple #[.int .u8 0, .iface 42 (.int .i64 14)]) ∧ DF w0 w' :=
  (inv_zero w _).mono fun _ _ ⟨h1, h2⟩ => ⟨h1, h2 ▸ h⟩
theorem log_D (h : DF w0 w) (a : Nat) (h0 : a ≠ 0) (ha : a < 256) :
    Calls Try.prog 26 #[.pointer (some ⟨w0.heap.size, 0, none⟩), .int .u8 (a : Int)] w fun e w' => e = .returned (.tuple #[.int .i64 (lg a : Int), .nilIface]) ∧ DF w0 w' :=
  (log_any w _ a h0 ha h.f).mono fun _ _ ⟨h1, h2, h3⟩ => ⟨h1, h.turn h2 h3⟩
theorem log_Z (h : DF w0 w) :
    Calls Try.prog 26 #[.pointer (some ⟨w0.heap.size, 0, none⟩), .int .u8 0] w fun e w' => e = .returned (.tuple #[.int .i64 0, .iface 42 (.int .i64 14)]) ∧ DF w0 w' :=
  (log_zero w _).mono fun _ _ ⟨h1, h2⟩ => ⟨h1, h2 ▸ h⟩
end

theorem nat_of_u8 {x : Int} (h : (Lit.int .u8 x).wf = true) : ∃ n : Nat, x = (n : Int) ∧ n < 256 := by
  have e1 : IntKind.u8.min = 0 := by decide
  have e2 : IntKind.u8.max = 255 := by decide
  simp only [Lit.wf, e1, e2, Bool.and_eq_true, decide_eq_true_eq] at h
  exact ⟨x.toNat, by omega, by omega⟩
end Go.Proofs.Ytaldpfamgfchoab.Gf
