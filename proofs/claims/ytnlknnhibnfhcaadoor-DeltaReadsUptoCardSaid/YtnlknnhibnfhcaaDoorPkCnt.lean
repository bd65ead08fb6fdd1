/-
  pack: Count; the calls of a nil reader.
-/
import Derived.Test.YtnlknnhibnfhcaaDoorPkW
namespace Go.Proofs.YtnlknnhibnfhcaaDoor.Pk
open Go.RowKit
set_option maxRecDepth 100000

/-- A count: a number of at most so much, and of what may stand behind it. -/
def cntB (most : Int) (b : List UInt8) : Except Nat (Int × List UInt8) := match numB most.toNat b with
  | .error c => .error c
  | .ok (n, r) => if r.length < n then .error 2 else .ok ((n : Int), r)
theorem cntB_error {most : Int} {b : List UInt8} {c : Nat} (h : numB most.toNat b = .error c) : cntB most b = .error c := by unfold cntB; rw [h]
theorem cntB_long {most : Int} {b r : List UInt8} {n : Nat} (h : numB most.toNat b = .ok (n, r)) (h1 : r.length < n) : cntB most b = .error 2 := by unfold cntB; rw [h]; exact if_pos h1
theorem cntB_ok {most : Int} {b r : List UInt8} {n : Nat} (h : numB most.toNat b = .ok (n, r)) (h1 : ¬ r.length < n) : cntB most b = .ok ((n : Int), r) := by unfold cntB; rw [h]; exact if_neg h1
theorem cntB_err {most : Int} {b : List UInt8} {c : Nat} (h : cntB most b = .error c) : c = 2 ∨ c = 12 ∨ c = 3 ∨ c = 4 := by
  cases hn : numB most.toNat b with
  | error d =>
    rw [cntB_error hn] at h
    cases h
    exact .inr (numB_err hn)
  | ok p =>
    obtain ⟨n, r⟩ := p
    by_cases h1 : r.length < n
    · rw [cntB_long hn h1] at h
      cases h
      exact .inl rfl
    · rw [cntB_ok hn h1] at h
      cases h

def CntRet (w : World) (x : Value) : Except Nat (Int × List UInt8) → Ending → Prop := Ret (.int .i64 0) i64V w x

set_option maxHeartbeats 1000000 in
theorem count_any (b : List UInt8) (most : Int) (w : World) (x : Value) (hx : Slc w x b) (hlen : b.length ≤ 140737488355328) (hmost : most ≤ 9223372036854775807) : Calls Tryd.prog 42 #[x, .int .i64 most] w fun e w' => CntRet w' x (cntB most b) e ∧ Stay (fun _ => False) w w' := by
  obtain ⟨post, hpost⟩ : ∃ post : Ending → World → Prop, post = fun e w' => CntRet w' x (cntB most b) e ∧ Stay (fun _ => False) w w' := ⟨_, rfl⟩
  rw [← hpost]
  have HP := Lib.hid hpost
  clear hpost
  have hcs : most < 0 ∨ ¬ most < 0 := by omega
  rcases hcs with hneg | hneg
  all_goals
    go_enter Tryd.func42, Tryd.ntmps42
    go_wp2_with fail
    refine (number_at b most.toNat _ w x hx (by first | omega | (simp; omega) | (simp [IntKind.wrap]; omega))).mono ?_
    rintro e w1 ⟨hret, hs1⟩
    cases hr : numB most.toNat b with
    | error c =>
      rw [hr] at hret
      obtain rfl := hret
      have HR := Lib.hid (cntB_error hr)
      clear hr
      unfold errI
      go_wp2
      go_ret3
      rw [HP.out]
      refine ⟨?_, hs1⟩
      rw [HR.out]
      rfl
    | ok p =>
      obtain ⟨n, r⟩ := p
      rw [hr] at hret
      obtain ⟨v, rfl, hsub⟩ := hret
      obtain ⟨a2, c2, rfl, _⟩ := id hsub.1
      have hrl := numB_len hr
      have hle := numB_le hr
      have HR := Lib.hid hr
      have HSub := Lib.hid hsub
      have hw : IntKind.i64.wrap (n : Int) = (n : Int) := IntWalk.i64_in _ (by omega)
      have hwl : IntKind.u64.wrap (r.length : Int) = (r.length : Int) := IntWalk.u64_in _ (by omega)
      clear hr hsub
      by_cases h1 : r.length < n
      · have hc := Lib.hid (cntB_long HR.out h1)
        unfold u64V
        go_wp2
        go_ret3
        rw [HP.out]
        refine ⟨?_, hs1⟩
        rw [hc.out]
        rfl
      · have hc := Lib.hid (cntB_ok HR.out h1)
        unfold u64V
        go_wp2
        go_ret3
        rw [HP.out]
        refine ⟨?_, hs1⟩
        rw [hc.out]
        exact ret_ok (val := i64V) rfl HSub.out

theorem cnt1_any (b : List UInt8) (most : Int) (q : Nat) (w : World) (x : Value) (hx : Slc w x b) (hlen : b.length ≤ 140737488355328) (hmost : most ≤ 9223372036854775807) (hq : w.cell? ⟨q, 0, none⟩ = some (.int .i64 most)) :
    Calls Tryd.prog 41 #[x, .pointer (some ⟨q, 0, none⟩)] w fun e w' => CntRet w' x (cntB most b) e ∧ Stay (fun _ => False) w w' := by
  obtain ⟨post, hpost⟩ : ∃ post : Ending → World → Prop, post = fun e w' => CntRet w' x (cntB most b) e ∧ Stay (fun _ => False) w w' := ⟨_, rfl⟩
  rw [← hpost]
  have HP := Lib.hid hpost
  clear hpost
  go_enter Tryd.func41, Tryd.ntmps41
  go_wp2_with fail
  refine (count_any b most w x hx hlen hmost).mono ?_
  rintro e w1 ⟨hret, hs1⟩
  cases hr : cntB most b with
  | error c =>
    rw [hr] at hret
    obtain rfl := hret
    have HR := Lib.hid hr
    clear hr
    go_wp2
    go_ret3
    rw [HP.out]
    refine ⟨?_, hs1⟩
    rw [HR.out]
    rfl
  | ok p =>
    obtain ⟨n, r⟩ := p
    rw [hr] at hret
    obtain ⟨v, rfl, hsub⟩ := hret
    have HR := Lib.hid hr
    have HSub := Lib.hid hsub
    clear hr hsub
    go_wp2
    go_ret3
    rw [HP.out]
    refine ⟨?_, hs1⟩
    rw [HR.out]
    exact ret_ok (val := i64V) rfl HSub.out

set_option maxHeartbeats 1000000 in
theorem take_cnt (X : Nat → Prop) (w : World) (p : Nat) (s : RS) (most : Int) (q : Nat) (h : RdAt X w p s) (hmost : most ≤ 9223372036854775807) (hlen : s.b.length ≤ 140737488355328) (hq : w.cell? ⟨q, 0, none⟩ = some (.int .i64 most)) :
    Calls Tryd.prog 40 #[.pointer (some ⟨p, 0, none⟩), .func (.func 41) #[] #[.pointer (some ⟨q, 0, none⟩)]] w fun e w' => e = .returned (i64V (takeB (cntB most) 0 s).1) ∧ RdAt X w' p (takeB (cntB most) 0 s).2 ∧ Stay (fun k => k = p) w w' := by
  by_cases he : s.err = 0
  · obtain ⟨hp, x, hx, hsl, hk⟩ := id h
    have hc0 : w.cell? ⟨p, 0, none⟩ = some x := by rw [cell_of_row w p 0 _ _ _ hx]; rfl
    have HP := Lib.hid h
    have HX := Lib.hid hx
    have HK := Lib.hid hk
    have HE := Lib.hid he
    have hlt := lt_of_block hx
    obtain ⟨TK, htk⟩ : ∃ TK, TK = takeB (cntB most) 0 s := ⟨_, rfl⟩
    rw [← htk]
    have HT := Lib.hid htk
    clear hx hk he htk h
    go_enter Tryd.func40, Tryd.ntmps40
    go_wp2_with fail
    refine (err_any X w p s HP.out).mono ?_
    rintro e w' ⟨rfl, rfl⟩
    rw [HE.out, errV_zero]
    go_wp2_with fail
    refine (cnt1_any s.b most q w x hsl hlen hmost hq).mono ?_
    rintro e w1 ⟨hret, hs1⟩
    have hp1 := Lib.hid ((hs1.block p hlt (fun x => x)).trans HX.out)
    cases hr : cntB most s.b with
    | error c =>
      rw [hr] at hret
      obtain rfl := hret
      have HR := Lib.hid (takeB_error (zero := 0) HE.out hr)
      have hcn : c ≠ 0 := by have := cntB_err hr; omega
      have HC := Lib.hid hcn
      have hc1 : w1.cell? ⟨p, 1, none⟩ = some (errV s.err) := by rw [cell_of_row w1 p 1 _ _ _ hp1.out]; rfl
      have hf1 : w1.frozen? ⟨p, 1, none⟩ = false := frozen_of_row w1 p 1 _ _ hp1.out
      clear hr hcn
      unfold errI
      go_wp2
      go_ret
      rw [HT.out, HR.out]
      exact ⟨rfl, HP.out.fail hs1 HC.out, (hs1.mono (fun _ x => x.elim)).trans (Stay.setCell _ _ _ rfl)⟩
    | ok y =>
      obtain ⟨n, r⟩ := y
      rw [hr] at hret
      obtain ⟨v, rfl, hsub⟩ := hret
      obtain ⟨a2, c2, rfl, _⟩ := id hsub.1
      have HSub := Lib.hid hsub
      have HR := Lib.hid (takeB_ok (zero := 0) HE.out hr)
      have hc1 : w1.cell? ⟨p, 0, none⟩ = some x := by rw [cell_of_row w1 p 0 _ _ _ hp1.out]; rfl
      have hf1 : w1.frozen? ⟨p, 0, none⟩ = false := frozen_of_row w1 p 0 _ _ hp1.out
      clear hr hsub
      unfold i64V
      go_wp2
      go_ret
      rw [HT.out, HR.out]
      exact ⟨rfl, RdAt.go hp hp1.out HK.out HE.out HSub.out, (hs1.mono (fun _ x => x.elim)).trans (Stay.setCell _ _ _ rfl)⟩
  · rw [takeB_bad he]
    have HE := Lib.hid he
    clear he
    go_enter Tryd.func40, Tryd.ntmps40
    go_wp2_with fail
    refine (err_any X w p s h).mono ?_
    rintro e w' ⟨rfl, rfl⟩
    rw [errV_pos HE.out]
    unfold errI
    go_wp2
    go_ret
    exact ⟨rfl, h, Stay.refl _ _⟩

theorem rcount_any (X : Nat → Prop) (w : World) (p : Nat) (s : RS) (most : Int) (h : RdAt X w p s) (hlen : s.b.length ≤ 140737488355328) (hmost : most ≤ 9223372036854775807) :
    Calls Tryd.prog 19 #[.pointer (some ⟨p, 0, none⟩), .int .i64 most] w fun e w' => e = .returned (i64V (takeB (cntB most) 0 s).1) ∧ RdAt X w' p (takeB (cntB most) 0 s).2 ∧ Stay (fun k => k = p) w w' := by
  have h1 := h.stay0 (Stay.alloc w (.cells #[.int .i64 most] 3))
  go_enter Tryd.func19, Tryd.ntmps19
  go_wp2_with fail
  refine (take_cnt X _ p s most _ h1 hmost hlen (by simp)).mono ?_
  rintro e w1 ⟨rfl, hr, hs⟩
  go_wp2
  go_ret
  exact ⟨rfl, hr, (Stay.alloc _ _).trans hs⟩

theorem ruint_none (m : Int) (w : World) : Calls Tryd.prog 44 #[.pointer none, .int .u64 m] w fun e w' => e = .returned (u64V 0) ∧ Stay (fun _ => False) w w' := by
  go_enter Tryd.func44, Tryd.ntmps44
  go_wp2_with fail
  refine (take_uint_none _ _).mono ?_
  rintro e w' ⟨rfl, rfl⟩
  go_wp2
  go_ret
  exact ⟨rfl, Stay.alloc _ _⟩
theorem rcount_none (m : Int) (w : World) : Calls Tryd.prog 19 #[.pointer none, .int .i64 m] w fun e w' => e = .returned (i64V 0) ∧ Stay (fun _ => False) w w' := by
  go_enter Tryd.func19, Tryd.ntmps19
  go_wp2_with fail
  refine (take_int_none _ _).mono ?_
  rintro e w' ⟨rfl, rfl⟩
  go_wp2
  go_ret
  exact ⟨rfl, Stay.alloc _ _⟩
theorem rbool_none (w : World) : Calls Tryd.prog 43 #[.pointer none] w fun e w' => e = .returned (boolV false) ∧ Stay (fun _ => False) w w' := by
  go_enter Tryd.func43, Tryd.ntmps43
  go_wp2_with fail
  refine (take_bool_none _ _).mono ?_
  rintro e w' ⟨rfl, rfl⟩
  go_wp2
  go_ret
  exact ⟨rfl, Stay.refl _ _⟩
theorem rbytes_none (m : Int) (w : World) : Calls Tryd.prog 45 #[.pointer none, .int .i64 m] w fun e w' => e = .returned (.slice none 0 0) ∧ Stay (fun _ => False) w w' := by
  go_enter Tryd.func45, Tryd.ntmps45
  go_wp2_with fail
  refine (take_text_none _ _).mono ?_
  rintro e w' ⟨rfl, rfl⟩
  go_wp2
  go_ret
  exact ⟨rfl, Stay.alloc _ _⟩
end Go.Proofs.YtnlknnhibnfhcaaDoor.Pk
