/-
  The document's answer (chapter 2): what is laid: own, Bool, Print, Bytes, Text.
-/
import Derived.Test.YthbcgimmbcdnmaaPkH
import Derived.Test.YthbcgimmbcdnmaaPkRefW2
namespace Go.Proofs.Ythbcgimmbcdnmaa.Pk
open Go.RowKit
set_option maxRecDepth 100000

/-- What is left of a number. -/
def quoB (n i : Nat) : Nat := n / 256 ^ i
theorem quo_succ (n i : Nat) : quoB n (i + 1) = quoB n i / 256 := by unfold quoB; rw [Nat.pow_succ, Nat.div_div_eq_div_mul]
theorem wrap64_in (n : Int) (h0 : 0 ≤ n) (h1 : n ≤ 18446744073709551615) : IntKind.u64.wrap n = n := by
  have e : IntKind.u64.wrap n = n % 18446744073709551616 := by simp [IntKind.wrap, IntKind.bits, IntKind.signed]
  rw [e]
  omega
theorem lowB_succ (n i : Nat) : lowB n (i + 1) = [UInt8.ofNat (quoB n i % 256)] ++ lowB n i := rfl

theorem refuint_any (w : World) (x : Value) (b : List UInt8) (n : Nat) (hx : Slc w x b) (hn : (n : Int) ≤ 18446744073709551615) (hlen : b.length + 9 ≤ 140737488355328) :
    Calls Try.prog 56 #[x, .int .u64 n] w fun e w' => ∃ v, e = .returned v ∧ Owns w.heap.size w' v (b ++ spellB n) ∧ Stay (fun _ => False) w w' := by
  obtain ⟨i0, hi, hz0, hz1, hz2⟩ := info_parts info5
  have HI := Lib.hid hi
  have HZ0 := Lib.hid hz0
  have HZ1 := Lib.hid hz1
  have HZ2 := Lib.hid hz2
  have HX := Lib.hid hx
  clear hi hz0 hz1 hz2 hx
  go_enter Try.func56, Try.ntmps56
  go_wp2_with fail
  refine (more_any n w).mono ?_
  rintro e w1 ⟨rfl, hw⟩
  subst hw
  have hk8 := kOf_le n
  go_wp2
  go_loopw [1, 6, 7, 8] (fun nv dv iv _ wr => ∃ i : Nat, i ≤ kOf n ∧ iv = .int .i64 (i : Int) ∧ nv = .int .u64 ((quoB n i : Nat) : Int) ∧ Owns w1.heap.size wr dv (lowB n i) ∧ Stay (fun k => w1.heap.size ≤ k) w1 wr) (fun _ _ iv _ _ => 8 - (intOf iv).toNat)
  case atStart => exact ⟨0, Nat.zero_le _, rfl, by simp [quoB], Owns.nil _ _, Stay.refl _ _⟩
  case round =>
    obtain ⟨i, hi, rfl, rfl, hown, hst⟩ := hrel
    obtain ⟨ad, cd, rfl⟩ := hown.form
    by_cases hlt : i < kOf n
    · have hJ : (i : Int) < (kOf n : Int) := by omega
      have hs1 := slc_one wr (UInt8.ofNat (quoB n i % 256)) ((quoB n i : Int) % 256) (by simp)
      have HS1 := Lib.hid hs1
      have HO := Lib.hid hown
      have HST := Lib.hid hst
      have hzz := hst.size
      have HLL := Lib.hid (length_lowB n i)
      have e1 : IntKind.i64.wrap ((i : Int) + 1) = (i : Int) + 1 := IntWalk.i64_in _ (by omega)
      clear hs1 hown hst
      go_wp2_with (first
        | (at_builtin; refine wpList_append_slc rfl (.tmp 16) (.tmp 20) 36 rfl w1.heap.size i0 Try.underlying36 HI.out HZ0.out HZ1.out HZ2.out (.slice none 0 0) _ [] [UInt8.ofNat (quoB n i % 256)] rfl rfl (Owns.nil _ _) HS1.out (by simp) (by simp; omega) ?_
           intro v2 w2 hown2 hgr2 hnn2
           obtain ⟨a2, c2, rfl⟩ := hown2.form
           have hst2 : Stay (fun _ => False) wr w2 := (Stay.alloc _ _).trans (Stay.grown (X := fun _ => False) hgr2 (fun k hk => by cases hk))
           have HO2 := Lib.hid hown2
           have HD2 := Lib.hid (HO.out.slc.stay0 hst2)
           have HST2 := Lib.hid hst2
           clear hown2 hgr2 hnn2 hst2)
        | (at_builtin; refine wpList_append_slc rfl (.tmp 21) (.tmp 22) 36 rfl w1.heap.size i0 Try.underlying36 HI.out HZ0.out HZ1.out HZ2.out (.slice a2 1 c2) (.slice ad (lowB n i).length cd) ([] ++ [UInt8.ofNat (quoB n i % 256)]) (lowB n i) rfl rfl HO2.out HD2.out (by rw [HLL.out]; simp; omega) (by have := HST2.out.size; omega) ?_
           intro v3 w3 hown3 hgr3 hnn3
           have HO3 := Lib.hid hown3
           have HST3 := Lib.hid ((HST2.out.mono (Y := fun k => w1.heap.size ≤ k) (fun _ x => x.elim)).trans (Stay.grown (X := fun k => w1.heap.size ≤ k) hgr3 (fun k hk => (HO2.out.lt k hk).1)))
           clear hown3 hgr3 hnn3))
      go_roundw
      case rel => exact ⟨i + 1, by omega, by go_num, by rw [quo_succ]; have hq : quoB n i ≤ n := Nat.div_le_self _ _; congr 1; rw [wrap64_in _ (by omega) (by omega)]; omega, by rw [lowB_succ]; simpa using HO3.out, HST.out.trans HST3.out⟩
      case measure => simp [intOf]; omega
    · obtain rfl : i = kOf n := by omega
      have HO := Lib.hid hown
      have HST := Lib.hid hst
      have hzz := hst.size
      clear hown hst
      go_wp2_with fail
      refine (own_any wr x b (HX.out.stay HST.out (fun k _ h1 h2 => by omega)) (by omega)).mono ?_
      rintro e w2 ⟨v2, rfl, hv2, hs2⟩
      obtain ⟨a2, c2, rfl⟩ := hv2.form
      have HV2 := Lib.hid hv2
      have HS2 := Lib.hid hs2
      have HD2 := Lib.hid (HO.out.slc.stay0 hs2)
      clear hv2 hs2
      go_wp2_with fail
      refine (rones_any (kOf n) _ w2 rfl hk8).mono ?_
      rintro e w3 ⟨rfl, hw3⟩
      subst hw3
      have HO3 := Lib.hid (HV2.out.base (base' := w1.heap.size) (fun k e => by have := HV2.out.lt k e; omega))
      have HO3' := Lib.hid (HO3.out.stay0 (Stay.alloc w3 (.cells #[.int .u8 (((onesN (kOf n) : Nat) + (quoB n (kOf n) : Nat) : Int) % 256)] 5)))
      have HS3 := Lib.hid (slc_one w3 (UInt8.ofNat (onesN (kOf n) + quoB n (kOf n))) (((onesN (kOf n) : Nat) + (quoB n (kOf n) : Nat) : Int) % 256) (by simp))
      have HLL := Lib.hid (length_lowB n (kOf n))
      have hz2 := HS2.out.size
      go_wp2_with (first
        | (at_builtin; refine wpList_append_slc rfl (.tmp 27) (.tmp 33) 36 rfl w1.heap.size i0 Try.underlying36 HI.out HZ0.out HZ1.out HZ2.out (.slice a2 b.length c2) _ b [UInt8.ofNat (onesN (kOf n) + quoB n (kOf n))] rfl rfl HO3'.out HS3.out (by simp; omega) (by simp; omega) ?_
           intro v4 w4 hown4 hgr4 hnn4
           obtain ⟨a4, c4, rfl⟩ := hown4.form
           rw [List.length_append, List.length_singleton] at hown4
           have HO4 := Lib.hid hown4
           have HG4 := Lib.hid hgr4
           have HD4 := Lib.hid ((HD2.out.stay0 (Stay.alloc w3 _)).stay (Stay.grown (X := fun k => (Value.slice a2 b.length c2).ownBlock = some k) hgr4 (fun k hk => hk)) (fun k h1 _ h2 => by have h3 := (HO.out.lt k h1).2; have h4 := (HV2.out.lt k h2).1; omega))
           clear hown4 hgr4 hnn4)
        | (at_builtin; refine wpList_append_slc rfl (.tmp 34) (.tmp 35) 36 rfl w1.heap.size i0 Try.underlying36 HI.out HZ0.out HZ1.out HZ2.out (.slice a4 (b.length + 1) c4) (.slice ad (lowB n (kOf n)).length cd) (b ++ [UInt8.ofNat (onesN (kOf n) + quoB n (kOf n))]) (lowB n (kOf n)) rfl rfl HO4.out HD4.out (by rw [HLL.out]; simp; omega) (by have := HG4.out.size; simp at this; omega) ?_
           intro v5 w5 hown5 hgr5 hnn5
           have HO5 := Lib.hid hown5
           have HG5 := Lib.hid hgr5
           clear hown5 hgr5 hnn5))
      go_ret
      have hfin : Stay (fun k => w1.heap.size ≤ k) w1 w5 := (((HST.out.trans (HS2.out.mono (fun _ x => x.elim))).trans (Stay.alloc w3 _)).trans (Stay.grown (X := fun k => w1.heap.size ≤ k) HG4.out (fun k hk => (HO3.out.lt k hk).1))).trans (Stay.grown (X := fun k => w1.heap.size ≤ k) HG5.out (fun k hk => (HO4.out.lt k hk).1))
      refine ⟨v5, rfl, ?_, stay_seal (X := fun k => w1.heap.size ≤ k) hfin (fun k hk => hk)⟩
      have h5 := HO5.out
      rw [List.append_assoc] at h5
      exact h5

end Go.Proofs.Ythbcgimmbcdnmaa.Pk
