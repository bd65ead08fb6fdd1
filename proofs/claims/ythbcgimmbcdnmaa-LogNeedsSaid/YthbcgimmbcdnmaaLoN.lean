/-
  log: how many sectors a record takes, by the document; LogNeeds.
-/
import Derived.Test.YthbcgimmbcdnmaaLoK
import Derived.Test.YthbcgimmbcdnmaaPkRefX3
namespace Go.Proofs.Ythbcgimmbcdnmaa.Lo
open Go.RowKit
open Pk (Slc Owns errV spellB bytesB)
set_option maxRecDepth 100000
set_option linter.unusedVariables false

set_option maxHeartbeats 1000000 in
theorem sealed_any (w : World) (x : Value) (l : List UInt8) (s : Nat) (hx : Slc w x l) (hs : s ≤ 1099511627776) (hl : l.length ≤ 65536) :
    Calls Try.prog 36 #[x, .int .i64 (s : Int)] w fun e w' => ∃ v, e = .returned v ∧ Owns w.heap.size w' v (recB s l) ∧ Stay (fun _ => False) w w' := by
  have HX := Lib.hid hx
  have hww : IntKind.u64.wrap (s : Int) = (s : Int) := by rw [IntKind.wrap_u64]; omega
  have h1 := Pk.len_spell s
  have h2 := Pk.len_spell l.length
  have HN := Lib.hid (show Slc w (.slice none 0 0) [] from ⟨none, 0, rfl, fun h => absurd h (Nat.lt_irrefl 0), fun _ => rfl, Nat.le_refl _, by decide⟩)
  clear hx
  go_enter Try.func36, Try.ntmps36
  go_wp2_with fail
  refine (Pk.refuint_at w (.slice none 0 0) [] s (s : Int) rfl HN.out (by omega) (by simp)).mono ?_
  rintro e w1 ⟨v1, rfl, ho1, hs1⟩
  have HO1 := Lib.hid ho1
  have HS1 := Lib.hid hs1
  clear ho1 hs1
  go_wp2_with fail
  refine (Pk.refbytes_any w1 v1 x _ l HO1.out.slc (HX.out.stay0 HS1.out) (by simp; omega)).mono ?_
  rintro e w2 ⟨v2, rfl, ho2, hs2⟩
  have HO2 := Lib.hid ho2
  have HS2 := Lib.hid (HS1.out.trans hs2)
  clear ho2 hs2
  go_wp2_with fail
  refine (Hn.rseal_any v2 _ w2 HO2.out.slc (by simp [bytesB]; omega)).mono ?_
  rintro e w3 ⟨v3, rfl, ho3, hs3⟩
  have hz := HS2.out.size
  go_wp2
  go_ret
  exact ⟨_, rfl, ho3.base (fun k hk => by have := (ho3.lt k hk).1; omega), HS2.out.trans hs3⟩
set_option maxHeartbeats 1000000 in
theorem rneed_any (w : World) (n s : Int) :
    Calls Try.prog 16 #[.int .i64 n, .int .i64 s] w fun e w' => e = .returned (.int .i64 (needP n s : Int)) ∧ Stay (fun _ => False) w w' := by
  by_cases hb : n < 0 ∨ 65536 < n ∨ s < 1 ∨ 1099511627776 < s
  · have e0 : needP n s = 0 := if_pos hb
    rw [e0]
    by_cases h1 : n < 0
    · go_enter Try.func16, Try.ntmps16
      go_wp2
      go_ret
      exact ⟨rfl, Stay.refl _ _⟩
    by_cases h2 : 65536 < n
    · go_enter Try.func16, Try.ntmps16
      go_wp2
      go_ret
      exact ⟨rfl, Stay.refl _ _⟩
    by_cases h3 : s < 1
    · go_enter Try.func16, Try.ntmps16
      go_wp2
      go_ret
      exact ⟨rfl, Stay.refl _ _⟩
    have h4 : 1099511627776 < s := by omega
    go_enter Try.func16, Try.ntmps16
    go_wp2
    go_ret
    exact ⟨rfl, Stay.refl _ _⟩
  · obtain ⟨m, rfl⟩ : ∃ m : Nat, n = (m : Int) := ⟨n.toNat, by omega⟩
    obtain ⟨t, rfl⟩ : ∃ t : Nat, s = (t : Int) := ⟨s.toNat, by omega⟩
    have e0 : needP (m : Int) (t : Int) = needN m t := by unfold needP; rw [if_neg hb, Int.toNat_natCast, Int.toNat_natCast]
    rw [e0]
    have h1 : ¬ (m : Int) < 0 := by omega
    have h2 : ¬ 65536 < (m : Int) := by omega
    have h3 : ¬ (t : Int) < 1 := by omega
    have h4 : ¬ 1099511627776 < (t : Int) := by omega
    have h5 : m ≤ 65536 := by omega
    have h6 : t ≤ 1099511627776 := by omega
    clear hb e0
    go_enter Try.func16, Try.ntmps16
    go_wp2_with (refine make_u8 rfl (.tmp 19) (.tmp 19) rfl m rfl rfl (by omega) ?_; intro w3 hsl3 hs3 hz3; have HSL := Lib.hid hsl3; have HS3 := Lib.hid hs3; clear hsl3 hs3)
    refine (sealed_any w3 _ (List.replicate m 0) t HSL.out h6 (by rw [List.length_replicate]; exact h5)).mono ?_
    rintro e w4 ⟨v, rfl, how, hs4⟩
    obtain ⟨va, vc, rfl⟩ := how.form
    have HS4 := Lib.hid (HS3.out.trans hs4)
    obtain ⟨k, hk⟩ : ∃ k, k = (recB t (List.replicate m 0)).length := ⟨_, rfl⟩
    have hkk : k = (spellB t).length + (spellB m).length + m + 4 := by rw [hk, len_recB, List.length_replicate]
    have hk1 := Pk.len_spell t
    have hk2 := Pk.len_spell m
    rw [← hk]
    have HE := Lib.hid (show ((k : Int) + 55) / 56 = (needN m t : Int) by unfold needN secs; omega)
    have hkb : k ≤ 100000 := by omega
    clear hs4 how hk hkk hk1 hk2
    go_wp2
    go_ret
    exact ⟨by rw [← HE.out]; rfl, HS4.out⟩
theorem needs_walk (w : World) (n s : Int) : Calls Try.prog 4 #[.int .i64 n, .int .i64 s] w fun e w' => e = .returned (.bool true) ∧ Stay (fun _ => False) w w' := by
  go_enter Try.func4, Try.ntmps4
  go_wp2_with fail
  refine (need_any w n s).mono ?_
  rintro e w1 ⟨rfl, hs1⟩
  go_wp2_with fail
  refine (rneed_any w1 n s).mono ?_
  rintro e w2 ⟨rfl, hs2⟩
  have HS2 := Lib.hid (hs1.trans hs2)
  clear hs1 hs2
  go_wp2_with fail
  refine (sure_any w2).mono ?_
  rintro e w3 ⟨rfl, hs3⟩
  have HS3 := Lib.hid (HS2.out.trans hs3)
  clear hs3
  go_wp2
  go_ret
  exact ⟨rfl, HS3.out⟩
end Go.Proofs.Ythbcgimmbcdnmaa.Lo
