/-
  pack: a reader's text and bytes, its truths.
-/
import Derived.Test.YtlmaooeeklhelaaGreatDoorPkG
import Derived.Deep.RegionWith
namespace Go.Proofs.YtlmaooeeklhelaaGreatDoor.Pk
open Go.RowKit
set_option maxRecDepth 100000

/-- The bytes that bytes begin with, of at most so many. -/
def textB (most : Int) (b : List UInt8) : Except Nat (List UInt8 × List UInt8) :=
  if most < 0 then .error 1 else match numB M64 b with
    | .error c => .error c
    | .ok (n, r) => if most < (n : Int) then .error 2 else if r.length < n then .error 12 else .ok (r.take n, r.drop n)

theorem textB_neg {most : Int} {b : List UInt8} (h : most < 0) : textB most b = .error 1 := if_pos h
theorem textB_err {most : Int} {b : List UInt8} {c : Nat} (h : ¬ most < 0) (hn : numB M64 b = .error c) : textB most b = .error c := by
  unfold textB
  rw [if_neg h, hn]
theorem textB_long {most : Int} {b r : List UInt8} {n : Nat} (h : ¬ most < 0) (hn : numB M64 b = .ok (n, r)) (h1 : most < (n : Int)) : textB most b = .error 2 := by
  unfold textB
  rw [if_neg h, hn]
  simp only []
  rw [if_pos h1]
theorem textB_end {most : Int} {b r : List UInt8} {n : Nat} (h : ¬ most < 0) (hn : numB M64 b = .ok (n, r)) (h1 : ¬ most < (n : Int)) (h2 : r.length < n) : textB most b = .error 12 := by
  unfold textB
  rw [if_neg h, hn]
  simp only []
  rw [if_neg h1, if_pos h2]
theorem textB_ok {most : Int} {b r : List UInt8} {n : Nat} (h : ¬ most < 0) (hn : numB M64 b = .ok (n, r)) (h1 : ¬ most < (n : Int)) (h2 : ¬ r.length < n) : textB most b = .ok (r.take n, r.drop n) := by
  unfold textB
  rw [if_neg h, hn]
  simp only []
  rw [if_neg h1, if_neg h2]
theorem textB_codes {most : Int} {b : List UInt8} {c : Nat} (h : textB most b = .error c) : c = 1 ∨ c = 2 ∨ c = 3 ∨ c = 4 ∨ c = 12 := by
  by_cases h0 : most < 0
  · rw [textB_neg h0] at h
    cases h
    exact .inl rfl
  · cases hn : numB M64 b with
    | error d =>
      rw [textB_err h0 hn] at h
      cases h
      have := numB_err hn
      omega
    | ok p =>
      obtain ⟨n, r⟩ := p
      by_cases h1 : most < (n : Int)
      · rw [textB_long h0 hn h1] at h
        cases h
        exact .inr (.inl rfl)
      · by_cases h2 : r.length < n
        · rw [textB_end h0 hn h1 h2] at h
          cases h
          omega
        · rw [textB_ok h0 hn h1 h2] at h
          cases h

/-- What 'text' hands back. -/
def TextRet (base : Nat) (w : World) (x : Value) : Except Nat (List UInt8 × List UInt8) → Ending → Prop
  | .error c, e => e = .returned (.tuple #[.slice none 0 0, .slice none 0 0, errI c])
  | .ok (t, r), e => ∃ v u, e = .returned (.tuple #[v, u, .nilIface]) ∧ Owns base w v t ∧ Sub w x u r

theorem numB_len {most n : Nat} {b r : List UInt8} (h : numB most b = .ok (n, r)) : r.length ≤ b.length := by
  cases b with
  | nil => cases h
  | cons c l =>
    unfold numB at h
    simp only [] at h
    split at h
    · cases h
    · split at h
      · cases h
      · split at h
        · cases h
        · cases h
          simp
          omega

set_option maxHeartbeats 1000000 in
theorem take_bool (X : Nat → Prop) (w : World) (p : Nat) (s : RS) (h : RdAt X w p s) :
    Calls Tryz.prog 92 #[.pointer (some ⟨p, 0, none⟩), .func (.func 93) #[] #[]] w fun e w' => e = .returned (boolV (takeB truB false s).1) ∧ RdAt X w' p (takeB truB false s).2 ∧ Stay (fun k => k = p) w w' := by
  by_cases he : s.err = 0
  · obtain ⟨hp, x, hx, hsl, hk⟩ := id h
    have hc0 : w.cell? ⟨p, 0, none⟩ = some x := by rw [cell_of_row w p 0 _ _ _ hx]; rfl
    have HP := Lib.hid h
    have HX := Lib.hid hx
    have HK := Lib.hid hk
    have HE := Lib.hid he
    have hlt := lt_of_block hx
    obtain ⟨TK, htk⟩ : ∃ TK, TK = takeB truB false s := ⟨_, rfl⟩
    rw [← htk]
    have HT := Lib.hid htk
    clear hx hk he htk h
    go_enter Tryz.func92, Tryz.ntmps92
    go_wp2_with fail
    refine (err_any X w p s HP.out).mono ?_
    rintro e w' ⟨rfl, rfl⟩
    rw [HE.out, errV_zero]
    go_wp2_with fail
    refine (truth_any s.b w x hsl).mono ?_
    rintro e w1 ⟨hret, hs1⟩
    have hp1 := Lib.hid ((hs1.block p hlt (fun x => x)).trans HX.out)
    cases hr : truB s.b with
    | error c =>
      rw [hr] at hret
      obtain rfl := hret
      have HR := Lib.hid (takeB_error (zero := false) HE.out hr)
      have hcn : c ≠ 0 := by have := truB_err hr; omega
      have HC := Lib.hid hcn
      have hc1 : w1.cell? ⟨p, 1, none⟩ = some (errV s.err) := by rw [cell_of_row w1 p 1 _ _ _ hp1.out]; rfl
      have hf1 : w1.frozen? ⟨p, 1, none⟩ = false := frozen_of_row w1 p 1 _ _ hp1.out
      clear hr hcn
      unfold errI
      go_wp2
      go_ret
      rw [HT.out, HR.out]
      exact ⟨rfl, HP.out.fail hs1 HC.out, (hs1.mono (fun _ x => x.elim)).trans (Stay.setCell _ _ _ rfl)⟩
    | ok q =>
      obtain ⟨n, r⟩ := q
      rw [hr] at hret
      obtain ⟨v, rfl, hsub⟩ := hret
      obtain ⟨a2, c2, rfl, _⟩ := id hsub.1
      have HSub := Lib.hid hsub
      have HR := Lib.hid (takeB_ok (zero := false) HE.out hr)
      have hc1 : w1.cell? ⟨p, 0, none⟩ = some x := by rw [cell_of_row w1 p 0 _ _ _ hp1.out]; rfl
      have hf1 : w1.frozen? ⟨p, 0, none⟩ = false := frozen_of_row w1 p 0 _ _ hp1.out
      clear hr hsub
      unfold boolV
      go_wp2
      go_ret
      rw [HT.out, HR.out]
      exact ⟨rfl, RdAt.go hp hp1.out HK.out HE.out HSub.out, (hs1.mono (fun _ x => x.elim)).trans (Stay.setCell _ _ _ rfl)⟩
  · rw [takeB_bad he]
    have HE := Lib.hid he
    clear he
    go_enter Tryz.func92, Tryz.ntmps92
    go_wp2_with fail
    refine (err_any X w p s h).mono ?_
    rintro e w' ⟨rfl, rfl⟩
    rw [errV_pos HE.out]
    unfold errI
    go_wp2
    go_ret
    exact ⟨rfl, h, Stay.refl _ _⟩

theorem take_bool_none (f : Value) (w : World) : Calls Tryz.prog 92 #[.pointer none, f] w fun e w' => e = .returned (boolV false) ∧ w = w' := by
  go_enter Tryz.func92, Tryz.ntmps92
  go_wp2_with fail
  refine (err_none w).mono ?_
  rintro e w' ⟨rfl, rfl⟩
  unfold errI
  go_wp2
  go_ret
  exact ⟨rfl, rfl⟩


theorem rbool_any (X : Nat → Prop) (w : World) (p : Nat) (s : RS) (h : RdAt X w p s) : Calls Tryz.prog 74 #[.pointer (some ⟨p, 0, none⟩)] w fun e w' => e = .returned (boolV (takeB truB false s).1) ∧ RdAt X w' p (takeB truB false s).2 ∧ Stay (fun k => k = p) w w' := by
  go_enter Tryz.func74, Tryz.ntmps74
  go_wp2_with fail
  refine (take_bool X _ p s h).mono ?_
  rintro e w1 ⟨rfl, hr, hs⟩
  go_wp2
  go_ret
  exact ⟨rfl, hr, hs⟩

end Go.Proofs.YtlmaooeeklhelaaGreatDoor.Pk
