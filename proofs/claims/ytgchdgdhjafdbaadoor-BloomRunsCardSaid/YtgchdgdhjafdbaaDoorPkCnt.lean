/-
  pack: Count; the calls of a nil reader.
-/
import Derived.Test.YtgchdgdhjafdbaaDoorPkW
namespace Go.Proofs.YtgchdgdhjafdbaaDoor.Pk
open Go.RowKit
set_option maxRecDepth 100000

/-- A count: a number of at most so much, and of what may stand behind it. -/
def cntB (most : Int) (b : List UInt8) : Except Nat (Int × List UInt8) := match numB most.toNat b with
  | .error c => .error c
  | .ok (n, r) => if r.length < n then .error 2 else .ok ((n : Int), r)
theorem cntB_error {most : Int} {b : List UInt8} {c : Nat} (h : numB most.toNat b = .error c) : cntB most b = .error c := by unfold cntB; rw [h]
theorem cntB_long {most : Int} {b r : List UInt8} {n : Nat} (h : numB most.toNat b = .ok (n, r)) (h1 : r.length < n) : cntB most b = .error 2 := by unfold cntB; rw [h]; exact if_pos h1
theorem cntB_ok {most : Int} {b r : List UInt8} {n : Nat} (h : numB most.toNat b = .ok (n, r)) (h1 : ¬ r.length < n) : cntB most b = .ok ((n : Int), r) := by unfold cntB; rw [h]; exact if_neg h1
theorem cntB_err {most : Int} {b : List UInt8} {c : Nat} (h : cntB most b = .error c) : c = 2 ∨ c = 12 ∨ c = 3 ∨ c = 4 := by
  cases hn : numB most.toNat b with
  | error d =>
    rw [cntB_error hn] at h
    cases h
    exact .inr (numB_err hn)
  | ok p =>
    obtain ⟨n, r⟩ := p
    by_cases h1 : r.length < n
    · rw [cntB_long hn h1] at h
      cases h
      exact .inl rfl
    · rw [cntB_ok hn h1] at h
      cases h

def CntRet (w : World) (x : Value) : Except Nat (Int × List UInt8) → Ending → Prop := Ret (.int .i64 0) i64V w x

theorem ruint_none (m : Int) (w : World) : Calls Tryd.prog 25 #[.pointer none, .int .u64 m] w fun e w' => e = .returned (u64V 0) ∧ Stay (fun _ => False) w w' := by
  go_enter Tryd.func25, Tryd.ntmps25
  go_wp2_with fail
  refine (take_uint_none _ _).mono ?_
  rintro e w' ⟨rfl, rfl⟩
  go_wp2
  go_ret
  exact ⟨rfl, Stay.alloc _ _⟩
theorem rbytes_none (m : Int) (w : World) : Calls Tryd.prog 26 #[.pointer none, .int .i64 m] w fun e w' => e = .returned (.slice none 0 0) ∧ Stay (fun _ => False) w w' := by
  go_enter Tryd.func26, Tryd.ntmps26
  go_wp2_with fail
  refine (take_text_none _ _).mono ?_
  rintro e w' ⟨rfl, rfl⟩
  go_wp2
  go_ret
  exact ⟨rfl, Stay.alloc _ _⟩
end Go.Proofs.YtgchdgdhjafdbaaDoor.Pk
