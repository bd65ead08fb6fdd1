/-
  rs: Row, Invert.
-/
import Derived.Test.YtaldpfamgfchoabRsO
namespace Go.Proofs.Ytaldpfamgfchoab.Rs
open Go.RowKit Gf
set_option maxRecDepth 100000

theorem row_nil (w : World) (p : Int) : Calls Try.prog 11 #[.pointer none, .int .i64 p] w fun e w' => e = .returned (.tuple #[.slice none 0 0, .iface 42 (.int .i64 1)]) ∧ w' = w := by
  by_cases h : p < 0
  · go_enter Try.func11, Try.ntmps11
    go_wp2
    go_ret2
    exact ⟨rfl, rfl⟩
  · have h2 : 0 ≤ p := by omega
    go_enter Try.func11, Try.ntmps11
    go_wp2_with fail
    refine (parts_nil w).mono ?_
    rintro e w' ⟨rfl, rfl⟩
    go_wp2
    go_ret2
    exact ⟨rfl, rfl⟩
section
variable {w : World} {c g k m : Nat}
theorem rowx_bad (hc : Cd w c g k m) (p : Int) (hp : p < 0 ∨ ((k + m : Nat) : Int) ≤ p) :
    Calls Try.prog 11 #[.pointer (some ⟨c, 0, none⟩), .int .i64 p] w fun e w' => e = .returned (.tuple #[.slice none 0 0, .iface 42 (.int .i64 1)]) ∧ w' = w := by
  by_cases h : p < 0
  · clear hp
    go_enter Try.func11, Try.ntmps11
    go_wp2
    go_ret2
    exact ⟨rfl, rfl⟩
  · have h2 : ((k + m : Nat) : Int) ≤ p := by omega
    have HC := Lib.hid hc
    generalize hn : k + m = n at h2
    have HN := Lib.hid hn
    clear hp hc hn
    go_enter Try.func11, Try.ntmps11
    go_wp2_with fail
    refine (parts_any HC.out).mono ?_
    rintro e w' ⟨rfl, rfl⟩
    rw [HN.out]
    go_wp2
    go_ret2
    exact ⟨rfl, rfl⟩
theorem rowx_good (hc : Cd w c g k m) (p : Nat) (hp : p < k + m) :
    Calls Try.prog 11 #[.pointer (some ⟨c, 0, none⟩), .int .i64 (p : Int)] w fun e w' => e = .returned (.tuple #[.slice (some ⟨w.heap.size, 0, none⟩) k k, .nilIface]) ∧ FB w' w.heap.size k (rowF k p) ∧ Cd w' c g k m ∧ Stay (· = g) w w' := by
  have h1 : ¬ (p : Int) < 0 := by omega
  have HC := Lib.hid hc
  have HP := Lib.hid hp
  generalize hn : k + m = n at hp
  have h2 : ¬ (n : Int) ≤ (p : Int) := by omega
  have HN := Lib.hid hn
  clear hp hc hn
  go_enter Try.func11, Try.ntmps11
  go_wp2_with fail
  refine (parts_any HC.out).mono ?_
  rintro e w' ⟨rfl, rfl⟩
  rw [HN.out]
  go_wp2_with fail
  refine (row_any w' c g k m p HC.out HP.out).mono ?_
  rintro e w2 ⟨rfl, h2, c2, s2⟩
  have H2 := Lib.hid h2
  have C2 := Lib.hid c2
  have S2 := Lib.hid s2
  clear h2 c2 s2
  go_wp2
  go_ret2
  exact ⟨rfl, H2.out, C2.out, S2.out⟩
end

/-- Is it a matrix that may be asked for its inverse? -/
def sqB (n : Nat) (L : Nat → Nat) : Bool := decide (0 < n) && decide (n ≤ 32) && decide (L 0 = n) && evenB n L
theorem sqB_true {n : Nat} {L : Nat → Nat} : sqB n L = true ↔ 0 < n ∧ n ≤ 32 ∧ ∀ i, i < n → L i = n := by
  unfold sqB
  simp only [Bool.and_eq_true, decide_eq_true_eq, evenB_true]
  constructor
  · rintro ⟨⟨⟨h1, h2⟩, h3⟩, h4⟩
    exact ⟨h1, h2, fun i hi => (h4 i hi).trans h3⟩
  · rintro ⟨h1, h2, h3⟩
    exact ⟨⟨⟨h1, h2⟩, h3 0 h1⟩, fun i hi => (h3 i hi).trans (h3 0 h1).symm⟩

end Go.Proofs.Ytaldpfamgfchoab.Rs
