/-
  pack: truth, signed; a reader in memory: Read, Err, Left, Done, Uint, Int.
-/
import Derived.Test.YthbcgimmbcdnmaaDoorPkC
namespace Go.Proofs.YthbcgimmbcdnmaaDoor.Pk
open Go.RowKit
set_option maxRecDepth 100000

/-- The truth that bytes begin with. -/
def truB : List UInt8 → Except Nat (Bool × List UInt8)
  | [] => .error 12
  | c :: r => if 1 < c.toNat then .error 3 else .ok (c.toNat == 1, r)
def boolV (b : Bool) : Value := .bool b
def TruRet (w : World) (x : Value) : Except Nat (Bool × List UInt8) → Ending → Prop := Ret (.bool false) boolV w x

theorem numB_le {most n : Nat} {b r : List UInt8} (h : numB most b = .ok (n, r)) : n ≤ most := by
  cases b with
  | nil => cases h
  | cons c l =>
    unfold numB at h
    simp only [] at h
    split at h
    · cases h
    · split at h
      · cases h
      · split at h
        · cases h
        · cases h
          omega
theorem numB_err {most c : Nat} {b : List UInt8} (h : numB most b = .error c) : c = 12 ∨ c = 3 ∨ c = 4 := by
  cases b with
  | nil => cases h; exact .inl rfl
  | cons c l =>
    unfold numB at h
    simp only [] at h
    split at h
    · cases h; exact .inl rfl
    · split at h
      · cases h; exact .inr (.inl rfl)
      · split at h
        · cases h; exact .inr (.inr rfl)
        · cases h
theorem truB_err {c : Nat} {b : List UInt8} (h : truB b = .error c) : c = 12 ∨ c = 3 := by
  cases b with
  | nil => cases h; exact .inl rfl
  | cons d l =>
    by_cases h1 : 1 < d.toNat
    · simp [truB, h1] at h
      exact .inr h.symm
    · simp [truB, h1] at h

def M63 : Nat := 9223372036854775807
/-- The int that bytes begin with. -/
def sigB (b : List UInt8) : Except Nat (Int × List UInt8) :=
  match truB b with
  | .error c => .error c
  | .ok (below, r) => match numB M63 r with
    | .error c => .error c
    | .ok (n, r2) => .ok (if below = true then -1 - (n : Int) else (n : Int), r2)
def i64V (n : Int) : Value := .int .i64 n
def SigRet (w : World) (x : Value) : Except Nat (Int × List UInt8) → Ending → Prop := Ret (.int .i64 0) i64V w x

theorem number_at (b : List UInt8) (most : Nat) (m : Int) (w : World) (x : Value) (hx : Slc w x b) (hm : m = (most : Int)) : Calls Tryd.prog 69 #[x, .int .u64 m] w fun e w' => NumRet w' x (numB most b) e ∧ Stay (fun _ => False) w w' := by
  subst hm
  exact number_any b most w x hx

end Go.Proofs.YthbcgimmbcdnmaaDoor.Pk
