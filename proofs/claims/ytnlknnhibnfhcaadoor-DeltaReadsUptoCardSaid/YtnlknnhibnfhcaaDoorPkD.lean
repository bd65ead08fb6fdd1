/-
  pack: truth, signed; a reader in memory: Read, Err, Left, Done, Uint, Int.
-/
import Derived.Test.YtnlknnhibnfhcaaDoorPkC
namespace Go.Proofs.YtnlknnhibnfhcaaDoor.Pk
open Go.RowKit
set_option maxRecDepth 100000

/-- The truth that bytes begin with. -/
def truB : List UInt8 → Except Nat (Bool × List UInt8)
  | [] => .error 12
  | c :: r => if 1 < c.toNat then .error 3 else .ok (c.toNat == 1, r)
def boolV (b : Bool) : Value := .bool b
def TruRet (w : World) (x : Value) : Except Nat (Bool × List UInt8) → Ending → Prop := Ret (.bool false) boolV w x

set_option maxHeartbeats 1000000 in
theorem truth_any0 (b : List UInt8) (w : World) (x : Value) (hx : Slc w x b) : Calls Tryd.prog 62 #[x] w fun e w' => TruRet w x (truB b) e ∧ Stay (fun _ => False) w w' := by
  cases b with
  | nil =>
    obtain ⟨a0, c, rfl, _⟩ := hx
    go_enter Tryd.func62, Tryd.ntmps62
    go_wp2
    go_ret3
    exact ⟨rfl, Stay.refl _ _⟩
  | cons c r =>
    obtain ⟨a0, cap, rfl, hr, hn, hcap, hm⟩ := id hx
    obtain ⟨ad, rfl, hcell⟩ := hr (by simp)
    have hsub := hx.cut (k := 1) (by simp)
    rw [List.drop_succ_cons, List.drop_zero, List.length_cons, Option.map_some] at hsub
    have HSub := Lib.hid hsub
    have hc : w.cell? ad = some (.int .u8 (c.toNat : Int)) := hcell 0 _ rfl
    clear hsub hx hr hcell hn
    have hb := c.toNat_lt
    rw [List.length_cons] at *
    have h0 : (((r.length + 1 : Nat) : Int) == 0) = false := beq_eq_false_iff_ne.2 (by omega)
    have hrl : (r.length : Int) ≤ 9223372036854775806 := by omega
    by_cases h1 : 1 < c.toNat
    · have ht : truB (c :: r) = .error 3 := by simp [truB, h1]
      rw [ht]
      clear ht
      go_enter Tryd.func62, Tryd.ntmps62
      go_wp2
      go_ret3
      exact ⟨rfl, Stay.refl _ _⟩
    · have ht : truB (c :: r) = .ok (c.toNat == 1, r) := by simp [truB, h1]
      rw [ht]
      clear ht
      have hq : (((c.toNat : Nat) : Int) == 1) = (c.toNat == 1) := by
        by_cases h : c.toNat = 1
        · rw [h]; rfl
        · rw [beq_eq_false_iff_ne.2 h, beq_eq_false_iff_ne.2 (by omega)]
      have HQ := Lib.hid hq
      clear hq
      rcases (by omega : cap = 1 ∨ ¬ cap = 1) with hcap1 | hcap1
      subst hcap1
      all_goals
        go_enter Tryd.func62, Tryd.ntmps62
        go_wp2
        go_quiet (fail)
        go_wp2
        go_ret3
        refine ⟨ret_ok (val := boolV) (n := c.toNat == 1) ?_ ?_, stay_drewN _ _⟩
        · unfold boolV
          rw [← HQ.out]
          rfl
        · have hs := HSub.out
          first
            | (rw [if_neg hcap1] at hs; exact hs)
            | (rw [if_pos trivial, show r.length + 1 - 1 = 0 by omega] at hs; exact hs)

theorem truth_any (b : List UInt8) (w : World) (x : Value) (hx : Slc w x b) : Calls Tryd.prog 62 #[x] w fun e w' => TruRet w' x (truB b) e ∧ Stay (fun _ => False) w w' :=
  (truth_any0 b w x hx).mono fun _ _ ⟨h1, h2⟩ => ⟨Ret.stay0 h1 h2, h2⟩

theorem numB_le {most n : Nat} {b r : List UInt8} (h : numB most b = .ok (n, r)) : n ≤ most := by
  cases b with
  | nil => cases h
  | cons c l =>
    unfold numB at h
    simp only [] at h
    split at h
    · cases h
    · split at h
      · cases h
      · split at h
        · cases h
        · cases h
          omega
theorem numB_err {most c : Nat} {b : List UInt8} (h : numB most b = .error c) : c = 12 ∨ c = 3 ∨ c = 4 := by
  cases b with
  | nil => cases h; exact .inl rfl
  | cons c l =>
    unfold numB at h
    simp only [] at h
    split at h
    · cases h; exact .inl rfl
    · split at h
      · cases h; exact .inr (.inl rfl)
      · split at h
        · cases h; exact .inr (.inr rfl)
        · cases h
theorem truB_err {c : Nat} {b : List UInt8} (h : truB b = .error c) : c = 12 ∨ c = 3 := by
  cases b with
  | nil => cases h; exact .inl rfl
  | cons d l =>
    by_cases h1 : 1 < d.toNat
    · simp [truB, h1] at h
      exact .inr h.symm
    · simp [truB, h1] at h

def M63 : Nat := 9223372036854775807
/-- The int that bytes begin with. -/
def sigB (b : List UInt8) : Except Nat (Int × List UInt8) :=
  match truB b with
  | .error c => .error c
  | .ok (below, r) => match numB M63 r with
    | .error c => .error c
    | .ok (n, r2) => .ok (if below = true then -1 - (n : Int) else (n : Int), r2)
def i64V (n : Int) : Value := .int .i64 n
def SigRet (w : World) (x : Value) : Except Nat (Int × List UInt8) → Ending → Prop := Ret (.int .i64 0) i64V w x

theorem number_at (b : List UInt8) (most : Nat) (m : Int) (w : World) (x : Value) (hx : Slc w x b) (hm : m = (most : Int)) : Calls Tryd.prog 60 #[x, .int .u64 m] w fun e w' => NumRet w' x (numB most b) e ∧ Stay (fun _ => False) w w' := by
  subst hm
  exact number_any b most w x hx

end Go.Proofs.YtnlknnhibnfhcaaDoor.Pk
