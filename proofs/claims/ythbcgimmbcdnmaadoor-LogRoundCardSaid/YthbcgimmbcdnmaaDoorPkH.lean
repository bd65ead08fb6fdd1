/-
  pack: a reader's text and bytes, its truths.
-/
import Derived.Test.YthbcgimmbcdnmaaDoorPkG
import Derived.Deep.RegionWith
namespace Go.Proofs.YthbcgimmbcdnmaaDoor.Pk
open Go.RowKit
set_option maxRecDepth 100000

/-- The bytes that bytes begin with, of at most so many. -/
def textB (most : Int) (b : List UInt8) : Except Nat (List UInt8 × List UInt8) :=
  if most < 0 then .error 1 else match numB M64 b with
    | .error c => .error c
    | .ok (n, r) => if most < (n : Int) then .error 2 else if r.length < n then .error 12 else .ok (r.take n, r.drop n)

theorem textB_neg {most : Int} {b : List UInt8} (h : most < 0) : textB most b = .error 1 := if_pos h
theorem textB_err {most : Int} {b : List UInt8} {c : Nat} (h : ¬ most < 0) (hn : numB M64 b = .error c) : textB most b = .error c := by
  unfold textB
  rw [if_neg h, hn]
theorem textB_long {most : Int} {b r : List UInt8} {n : Nat} (h : ¬ most < 0) (hn : numB M64 b = .ok (n, r)) (h1 : most < (n : Int)) : textB most b = .error 2 := by
  unfold textB
  rw [if_neg h, hn]
  simp only []
  rw [if_pos h1]
theorem textB_end {most : Int} {b r : List UInt8} {n : Nat} (h : ¬ most < 0) (hn : numB M64 b = .ok (n, r)) (h1 : ¬ most < (n : Int)) (h2 : r.length < n) : textB most b = .error 12 := by
  unfold textB
  rw [if_neg h, hn]
  simp only []
  rw [if_neg h1, if_pos h2]
theorem textB_ok {most : Int} {b r : List UInt8} {n : Nat} (h : ¬ most < 0) (hn : numB M64 b = .ok (n, r)) (h1 : ¬ most < (n : Int)) (h2 : ¬ r.length < n) : textB most b = .ok (r.take n, r.drop n) := by
  unfold textB
  rw [if_neg h, hn]
  simp only []
  rw [if_neg h1, if_neg h2]
theorem textB_codes {most : Int} {b : List UInt8} {c : Nat} (h : textB most b = .error c) : c = 1 ∨ c = 2 ∨ c = 3 ∨ c = 4 ∨ c = 12 := by
  by_cases h0 : most < 0
  · rw [textB_neg h0] at h
    cases h
    exact .inl rfl
  · cases hn : numB M64 b with
    | error d =>
      rw [textB_err h0 hn] at h
      cases h
      have := numB_err hn
      omega
    | ok p =>
      obtain ⟨n, r⟩ := p
      by_cases h1 : most < (n : Int)
      · rw [textB_long h0 hn h1] at h
        cases h
        exact .inr (.inl rfl)
      · by_cases h2 : r.length < n
        · rw [textB_end h0 hn h1 h2] at h
          cases h
          omega
        · rw [textB_ok h0 hn h1 h2] at h
          cases h

/-- What 'text' hands back. -/
def TextRet (base : Nat) (w : World) (x : Value) : Except Nat (List UInt8 × List UInt8) → Ending → Prop
  | .error c, e => e = .returned (.tuple #[.slice none 0 0, .slice none 0 0, errI c])
  | .ok (t, r), e => ∃ v u, e = .returned (.tuple #[v, u, .nilIface]) ∧ Owns base w v t ∧ Sub w x u r

theorem numB_len {most n : Nat} {b r : List UInt8} (h : numB most b = .ok (n, r)) : r.length ≤ b.length := by
  cases b with
  | nil => cases h
  | cons c l =>
    unfold numB at h
    simp only [] at h
    split at h
    · cases h
    · split at h
      · cases h
      · split at h
        · cases h
        · cases h
          simp
          omega

set_option maxHeartbeats 2000000 in
theorem text_any (b : List UInt8) (most : Int) (w : World) (x : Value) (hx : Slc w x b) (hlen : b.length ≤ 140737488355328) (hmost : most ≤ 9223372036854775807) :
    Calls Tryd.prog 72 #[x, .int .i64 most] w fun e w' => TextRet w.heap.size w' x (textB most b) e ∧ Stay (fun _ => False) w w' := by
  by_cases h0 : most < 0
  · rw [textB_neg h0]
    go_enter Tryd.func72, Tryd.ntmps72
    go_wp2
    go_ret3
    exact ⟨rfl, Stay.refl _ _⟩
  · obtain ⟨T, hT⟩ : ∃ T, T = textB most b := ⟨_, rfl⟩
    rw [← hT]
    have HT := Lib.hid hT
    have H0 := Lib.hid h0
    have h0' : 0 ≤ most := by omega
    have hw := IntWalk.u64_in most (by omega)
    clear hT h0
    go_enter Tryd.func72, Tryd.ntmps72
    go_wp2_with fail
    refine (number_at b M64 _ w x hx rfl).mono ?_
    rintro e w1 ⟨hret, hs1⟩
    cases hnr : numB M64 b with
    | error c =>
      rw [hnr] at hret
      obtain rfl := hret
      have HTE := Lib.hid (HT.out.trans (textB_err (by have := H0.out; omega) hnr))
      clear hnr
      unfold errI
      go_wp2
      go_ret3
      exact ⟨by rw [HTE.out]; rfl, hs1⟩
    | ok p =>
      obtain ⟨n, r⟩ := p
      rw [hnr] at hret
      obtain ⟨v, rfl, hsub⟩ := hret
      obtain ⟨a2, c2, rfl, _, _, hc2, hcm⟩ := id hsub.1
      have hnl := numB_le hnr
      unfold M64 at hnl
      have hrl := numB_len hnr
      have HSub := Lib.hid hsub
      have HNR := Lib.hid hnr
      have hwl := IntWalk.u64_in (r.length : Int) (by omega)
      clear hnr hsub
      unfold u64V
      by_cases h1 : most < (n : Int)
      · have HTE := Lib.hid (HT.out.trans (textB_long (by have := H0.out; omega) HNR.out h1))
        go_wp2
        go_ret3
        exact ⟨by rw [HTE.out]; rfl, hs1⟩
      · by_cases h2 : r.length < n
        · have HTE := Lib.hid (HT.out.trans (textB_end (by have := H0.out; omega) HNR.out h1 h2))
          go_wp2
          go_ret3
          exact ⟨by rw [HTE.out]; rfl, hs1⟩
        · have HTE := Lib.hid (HT.out.trans (textB_ok (by have := H0.out; omega) HNR.out h1 h2))
          have hn2 : n ≤ r.length := Nat.le_of_not_lt h2
          have hfirst := Slc.first HSub.out.1 hn2
          have hcut := HSub.out.1.cut hn2
          have HFirst := Lib.hid hfirst
          have HCut := Lib.hid hcut
          have hncap : n ≤ c2 := by omega
          clear hfirst hcut
          have hcases : n = c2 ∨ ¬ c2 = n := by omega
          have htl : (r.take n).length = n := by rw [List.length_take]; omega
          have HTL := Lib.hid htl
          clear hc2 htl
          rcases hcases with hcn | hcn
          subst hcn
          all_goals
            go_wp2
            go_region_with (go_at_call 43; refine (clone_slc _ _ (r.take n) (HFirst.out.stay0 Stay.drew) (by rw [HTL.out]; omega)).mono ?_; rintro e w2 ⟨v2, rfl, how, hs2⟩)
            go_wp2
            go_ret3
            refine ⟨?_, hs1.trans (Stay.drew.trans hs2)⟩
            rw [HTE.out]
            refine ⟨v2, _, rfl, Owns.base how (fun k hk => Nat.le_trans hs1.size (how.lt k hk).1), ?_⟩
            refine Sub.trans (Sub.stay0 HSub.out (Stay.drew.trans hs2)) (Sub.stay0 (w := w1) ?_ (Stay.drew.trans hs2))
            have hs := HCut.out
            first
              | (rw [if_neg hcn] at hs; exact hs)
              | (rw [if_pos trivial, Nat.sub_self] at hs; exact hs)
              | (rw [if_pos rfl, Nat.sub_self] at hs; exact hs)

theorem bytes1_any (b : List UInt8) (most : Int) (q : Nat) (w : World) (x : Value) (hx : Slc w x b) (hlen : b.length ≤ 140737488355328) (hmost : most ≤ 9223372036854775807) (hq : w.cell? ⟨q, 0, none⟩ = some (.int .i64 most)) :
    Calls Tryd.prog 71 #[x, .pointer (some ⟨q, 0, none⟩)] w fun e w' => TextRet w.heap.size w' x (textB most b) e ∧ Stay (fun _ => False) w w' := by
  obtain ⟨post, hpost⟩ : ∃ post : Ending → World → Prop, post = fun e w' => TextRet w.heap.size w' x (textB most b) e ∧ Stay (fun _ => False) w w' := ⟨_, rfl⟩
  rw [← hpost]
  have HP := Lib.hid hpost
  clear hpost
  go_enter Tryd.func71, Tryd.ntmps71
  go_wp2_with fail
  refine (text_any b most w x hx hlen hmost).mono ?_
  rintro e w1 ⟨hret, hs1⟩
  cases hr : textB most b with
  | error c =>
    rw [hr] at hret
    obtain rfl := hret
    have HR := Lib.hid hr
    clear hr
    go_wp2
    go_ret3
    rw [HP.out]
    refine ⟨?_, hs1⟩
    rw [HR.out]
    rfl
  | ok p =>
    obtain ⟨t, r⟩ := p
    rw [hr] at hret
    obtain ⟨v, u, rfl, how, hsub⟩ := hret
    have HR := Lib.hid hr
    have HO := Lib.hid how
    have HSub := Lib.hid hsub
    clear hr how hsub
    go_wp2
    go_ret3
    rw [HP.out]
    refine ⟨?_, hs1⟩
    rw [HR.out]
    exact ⟨v, u, rfl, HO.out, HSub.out⟩

set_option maxHeartbeats 1000000 in
theorem take_text (X : Nat → Prop) (w : World) (p : Nat) (s : RS) (most : Int) (q : Nat) (h : RdAt X w p s) (hlen : s.b.length ≤ 140737488355328) (hmost : most ≤ 9223372036854775807) (hq : w.cell? ⟨q, 0, none⟩ = some (.int .i64 most)) :
    Calls Tryd.prog 70 #[.pointer (some ⟨p, 0, none⟩), .func (.func 71) #[] #[.pointer (some ⟨q, 0, none⟩)]] w fun e w' =>
      (∃ v, e = .returned v ∧ Owns w.heap.size w' v (takeB (textB most) [] s).1) ∧ RdAt X w' p (takeB (textB most) [] s).2 ∧ Stay (fun k => k = p) w w' := by
  by_cases he : s.err = 0
  · obtain ⟨hp, x, hx, hsl, hk⟩ := id h
    have hc0 : w.cell? ⟨p, 0, none⟩ = some x := by rw [cell_of_row w p 0 _ _ _ hx]; rfl
    have HP := Lib.hid h
    have HX := Lib.hid hx
    have HK := Lib.hid hk
    have HE := Lib.hid he
    have hlt := lt_of_block hx
    obtain ⟨TK, htk⟩ : ∃ TK, TK = takeB (textB most) [] s := ⟨_, rfl⟩
    rw [← htk]
    have HT := Lib.hid htk
    clear hx hk he htk h
    go_enter Tryd.func70, Tryd.ntmps70
    go_wp2_with fail
    refine (err_any X w p s HP.out).mono ?_
    rintro e w' ⟨rfl, rfl⟩
    rw [HE.out, errV_zero]
    go_wp2_with fail
    refine (bytes1_any s.b most q w x hsl hlen hmost hq).mono ?_
    rintro e w1 ⟨hret, hs1⟩
    have hp1 := Lib.hid ((hs1.block p hlt (fun x => x)).trans HX.out)
    cases hr : textB most s.b with
    | error c =>
      rw [hr] at hret
      obtain rfl := hret
      have HR := Lib.hid (takeB_error (zero := ([] : List UInt8)) HE.out hr)
      have hcn : c ≠ 0 := by have := textB_codes hr; omega
      have HC := Lib.hid hcn
      have hc1 : w1.cell? ⟨p, 1, none⟩ = some (errV s.err) := by rw [cell_of_row w1 p 1 _ _ _ hp1.out]; rfl
      have hf1 : w1.frozen? ⟨p, 1, none⟩ = false := frozen_of_row w1 p 1 _ _ hp1.out
      clear hr hcn
      unfold errI
      go_wp2
      go_ret
      rw [HT.out, HR.out]
      exact ⟨⟨_, rfl, Owns.nil _ _⟩, HP.out.fail hs1 HC.out, (hs1.mono (fun _ x => x.elim)).trans (Stay.setCell _ _ _ rfl)⟩
    | ok pr =>
      obtain ⟨n, r⟩ := pr
      rw [hr] at hret
      obtain ⟨v0, v, rfl, how, hsub⟩ := hret
      obtain ⟨a2, c2, rfl, _⟩ := id hsub.1
      have HSub := Lib.hid hsub
      have HO := Lib.hid how
      have HR := Lib.hid (takeB_ok (zero := ([] : List UInt8)) HE.out hr)
      have hc1 : w1.cell? ⟨p, 0, none⟩ = some x := by rw [cell_of_row w1 p 0 _ _ _ hp1.out]; rfl
      have hf1 : w1.frozen? ⟨p, 0, none⟩ = false := frozen_of_row w1 p 0 _ _ hp1.out
      clear hr hsub how
      go_wp2
      go_ret
      rw [HT.out, HR.out]
      refine ⟨⟨_, rfl, HO.out.stay (Stay.setCell (X := fun k => k = p) _ _ _ rfl) (fun k hk e => ?_)⟩, RdAt.go hp hp1.out HK.out HE.out HSub.out, (hs1.mono (fun _ x => x.elim)).trans (Stay.setCell _ _ _ rfl)⟩
      have h1 := (HO.out.lt k hk).1
      have e' : k = p := e
      omega
  · rw [takeB_bad he]
    have HE := Lib.hid he
    clear he
    go_enter Tryd.func70, Tryd.ntmps70
    go_wp2_with fail
    refine (err_any X w p s h).mono ?_
    rintro e w' ⟨rfl, rfl⟩
    rw [errV_pos HE.out]
    unfold errI
    go_wp2
    go_ret
    exact ⟨⟨_, rfl, Owns.nil _ _⟩, h, Stay.refl _ _⟩

theorem take_text_none (f : Value) (w : World) : Calls Tryd.prog 70 #[.pointer none, f] w fun e w' => e = .returned (.slice none 0 0) ∧ w = w' := by
  go_enter Tryd.func70, Tryd.ntmps70
  go_wp2_with fail
  refine (err_none w).mono ?_
  rintro e w' ⟨rfl, rfl⟩
  unfold errI
  go_wp2
  go_ret
  exact ⟨rfl, rfl⟩

theorem rbytes_any (X : Nat → Prop) (w : World) (p : Nat) (s : RS) (most : Int) (h : RdAt X w p s) (hlen : s.b.length ≤ 140737488355328) (hmost : most ≤ 9223372036854775807) :
    Calls Tryd.prog 54 #[.pointer (some ⟨p, 0, none⟩), .int .i64 most] w fun e w' =>
      (∃ v, e = .returned v ∧ Owns w.heap.size w' v (takeB (textB most) [] s).1) ∧ RdAt X w' p (takeB (textB most) [] s).2 ∧ Stay (fun k => k = p) w w' := by
  have h1 := h.stay0 (Stay.alloc w (.cells #[.int .i64 most] 3))
  go_enter Tryd.func54, Tryd.ntmps54
  go_wp2_with fail
  refine (take_text X _ p s most _ h1 hlen hmost (by simp)).mono ?_
  rintro e w1 ⟨⟨v, rfl, how⟩, hr, hs⟩
  go_wp2
  go_ret
  exact ⟨⟨v, rfl, Owns.base how (fun k hk => by have := (how.lt k hk).1; simp at this; omega)⟩, hr, (Stay.alloc _ _).trans hs⟩

end Go.Proofs.YthbcgimmbcdnmaaDoor.Pk
