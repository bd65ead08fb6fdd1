/-
  table's laws: bytes with one another one, or one fewer.
-/
import Derived.Test.YteogdihacohkfaaGreatDoorTbQ
import Derived.Test.YteogdihacohkfaaGreatDoorTbO
import Derived.Test.YteogdihacohkfaaGreatDoorGaH
namespace Go.Proofs.YteogdihacohkfaaGreatDoor.Tb
open Go.RowKit
open Pk (stay_seal)
open Pk (spellB Slc Owns)
set_option maxRecDepth 100000
set_option linter.unusedVariables false

theorem one_unlike {c y : UInt8} (hy : y ≠ 0) : c ^^^ y ≠ c := fun h => hy (Hn.xor_same (congrArg UInt8.toNat h))
/-- A sealed text with one byte another one is not opened. -/
theorem spoilt (X : List UInt8) (i : Nat) (c y : UInt8) (hc : (Hn.sealB X)[i]? = some c) (hy : y ≠ 0) : Hn.openB ((Hn.sealB X).set i (c ^^^ y)) = .error 11 := by
  have hl := Hn.length_sealB X
  have hn : ((Hn.sealB X).set i (c ^^^ y)).length = X.length + 4 := by rw [List.length_set]; exact hl
  rw [Hn.open_form hn, if_neg]
  intro h
  by_cases hi : i < X.length
  · have hcx : X[i]? = some c := by
      unfold Hn.sealB at hc
      rwa [List.getElem?_append_left hi] at hc
    have e1 : (Hn.sealB X).set i (c ^^^ y) = X.set i (c ^^^ y) ++ Hn.tailB (Hn.moreN 1 X) := by
      unfold Hn.sealB
      rw [List.set_append_left _ _ hi]
    rw [e1, List.drop_left' (List.length_set ..), List.take_left' (List.length_set ..)] at h
    have h1 := Hn.tail_inj (Hn.moreN_lt 1 X) (Hn.moreN_lt 1 _) h
    have h2 : Hn.nearB X i (fun _ => y) 1 = X.set i (c ^^^ y) := by
      have := Hn.nearB_succ X i (fun _ => y) 0 c (by simpa using hcx)
      rw [Hn.nearB_zero] at this
      simpa using this
    have h3 := Hn.near_unlike (b := X) (i := i) (m := 1) (y := fun _ => y) 1 (by omega) (by omega) (by omega) (by rw [Hn.oth_one]; simpa using hy)
    rw [h2] at h3
    exact h3 h1.symm
  · have e1 : (Hn.sealB X).set i (c ^^^ y) = X ++ (Hn.tailB (Hn.moreN 1 X)).set (i - X.length) (c ^^^ y) := by
      unfold Hn.sealB
      rw [List.set_append_right _ _ (by omega)]
    rw [e1, List.drop_left' rfl, List.take_left' rfl] at h
    have hct : (Hn.tailB (Hn.moreN 1 X))[i - X.length]? = some c := by
      unfold Hn.sealB at hc
      rwa [List.getElem?_append_right (by omega)] at hc
    have hlt := (List.getElem?_eq_some_iff.1 hct).1
    have h2 : ((Hn.tailB (Hn.moreN 1 X)).set (i - X.length) (c ^^^ y))[i - X.length]? = some (c ^^^ y) := by
      rw [List.getElem?_set_self hlt]
    rw [h, hct] at h2
    exact one_unlike hy (Option.some.inj h2).symm
theorem open_code {b : List UInt8} {c : Nat} (h : Hn.openB b = .error c) : c = 11 ∨ c = 12 := by
  unfold Hn.openB at h
  split at h
  · cases h; exact .inr rfl
  · split at h
    · cases h
    · cases h; exact .inl rfl
theorem len_open {b r : List UInt8} (h : Hn.openB b = .ok r) : r.length ≤ b.length := by
  unfold Hn.openB at h
  split at h
  · cases h
  · split at h
    · cases h
      rw [List.length_take]
      omega
    · cases h
theorem xor_byte (c d : UInt8) : bits .xor .u8 (c.toNat : Int) (d.toNat : Int) = ((c ^^^ d).toNat : Int) := by
  have hc := c.toNat_lt
  have hd := d.toNat_lt
  have hx : c.toNat ^^^ d.toNat < 2 ^ 8 := Nat.xor_lt_two_pow (by omega) (by omega)
  have h1 : (BitVec.ofInt 8 (c.toNat : Int)).toNat = c.toNat := by
    rw [BitVec.ofInt_natCast, BitVec.toNat_ofNat]; exact Nat.mod_eq_of_lt (by omega)
  have h2 : (BitVec.ofInt 8 (d.toNat : Int)).toNat = d.toNat := by
    rw [BitVec.ofInt_natCast, BitVec.toNat_ofNat]; exact Nat.mod_eq_of_lt (by omega)
  show IntKind.u8.wrap ((BitVec.ofInt 8 (c.toNat : Int) ^^^ BitVec.ofInt 8 (d.toNat : Int)).toNat : Int) = _
  rw [BitVec.toNat_xor, h1, h2, IntKind.wrap_u8, UInt8.toNat_xor]
  omega
theorem tab_five (L : List Me.En) (p q : Nat) : 5 ≤ (tabB L p q).length := by
  unfold tabB
  rw [Hn.length_sealB]
  have h1 := len_spellB L.length
  unfold textT
  rw [List.length_append, List.length_append, List.length_append]
  omega
theorem small_idx (x : Int) (l : Nat) (h1 : 5 ≤ l) (h2 : l ≤ 10000000) : ∃ i : Nat, wrap64 ((IntKind.u64.wrap x).tmod l) = (i : Int) ∧ i < l := by
  have h0 : 0 ≤ IntKind.u64.wrap x := by rw [IntKind.wrap_u64]; omega
  rw [Int.tmod_eq_emod_of_nonneg h0]
  generalize IntKind.u64.wrap x = u at *
  have h4 := Int.emod_nonneg u (show (l : Int) ≠ 0 by omega)
  have h5 := Int.emod_lt_of_pos u (show (0 : Int) < l by omega)
  exact ⟨(u % l).toNat, by rw [Bo.wrap_small _ (by omega) (by omega)]; omega, by omega⟩
theorem nat_of_u8 {x : Int} (h : (Lit.int .u8 x).wf = true) : ∃ n : Nat, x = (n : Int) ∧ n < 256 := by
  have e1 : IntKind.u8.min = 0 := by decide
  have e2 : IntKind.u8.max = 255 := by decide
  simp only [Lit.wf, e1, e2, Bool.and_eq_true, decide_eq_true_eq] at h
  exact ⟨x.toNat, by omega, by omega⟩
end Go.Proofs.YteogdihacohkfaaGreatDoor.Tb
