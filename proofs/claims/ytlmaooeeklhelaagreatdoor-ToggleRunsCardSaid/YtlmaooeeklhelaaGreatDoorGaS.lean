import Derived.Test.YtlmaooeeklhelaaGreatDoorPkF
import Derived.Test.YtlmaooeeklhelaaGreatDoorPkH
import Derived.Test.YtlmaooeeklhelaaGreatDoorPkPlain
import GoSem.Op.String
import Derived.Test.YtlmaooeeklhelaaGreatDoorPkG
import Derived.Test.YtlmaooeeklhelaaGreatDoorGaR
import Derived.Test.YtlmaooeeklhelaaGreatDoorTgN
import Derived.Lib.ConvBytes
import Derived.Test.YtlmaooeeklhelaaGreatDoorClass
import Derived.Test.YtlmaooeeklhelaaGreatDoorHeld
import Derived.Test.YtlmaooeeklhelaaGreatDoorTgL
/-
  The document's answer (chapter 2): power, More, ones.
-/
namespace Go.Proofs.YtlmaooeeklhelaaGreatDoor.Pk
open Go.RowKit
set_option maxRecDepth 100000

def pow2 (n : Nat) : Nat := 2 ^ n

theorem power_any (n : Nat) (m : Int) (w : World) (hm : m = (n : Int)) (hn : n ≤ 63) : Calls Tryz.prog 97 #[.int .i64 m] w fun e w' => e = .returned (.int .u64 ((pow2 n : Nat) : Int)) ∧ w' = w := by
  subst hm
  go_enter Tryz.func97, Tryz.ntmps97
  go_wp2
  go_loop [3, 4] (fun p i => ∃ j : Nat, j ≤ n ∧ i = .int .i64 j ∧ p = .int .u64 ((pow2 j : Nat) : Int)) (fun _ i => n - (intOf i).toNat)
  case atStart => exact ⟨0, Nat.zero_le _, rfl, rfl⟩
  case round =>
    obtain ⟨j, hj, rfl, rfl⟩ := hrel
    have hp : pow2 (j + 1) = pow2 j * 2 := Nat.pow_succ 2 j
    have HP := Lib.hid hp
    clear hp
    by_cases hlt : j < n
    · have hq : pow2 j ≤ 4611686018427387904 := Nat.pow_le_pow_right (by decide) (by omega : j ≤ 62)
      generalize pow2 j = q at *
      go_wp2
      go_round
      case rel => exact ⟨j + 1, by omega, by go_num, by rw [HP.out]; congr 1; omega⟩
      case measure => simp [intOf]; omega
    · obtain rfl : j = n := by omega
      go_wp2
      go_ret
      exact ⟨rfl, rfl⟩

theorem more_any (n : Nat) (w : World) : Calls Tryz.prog 81 #[.int .u64 n] w fun e w' => e = .returned (.int .i64 (kOf n : Nat)) ∧ w' = w := by
  have h8 := kOf_le n
  go_enter Tryz.func81, Tryz.ntmps81
  go_wp2
  go_loop [3] (fun i => ∃ j : Nat, j ≤ kOf n ∧ i = .int .i64 j) (fun i => 8 - (intOf i).toNat)
  case atStart => exact ⟨0, Nat.zero_le _, rfl⟩
  case round =>
    obtain ⟨j, hj, rfl⟩ := hrel
    by_cases h8j : j < 8
    · by_cases hlt : j < kOf n
      · have hge : pow2 (7 * j + 7) ≤ n := kOf_lt hlt
        go_wp2_with fail
        refine (power_any (7 * j + 7) _ _ (by omega) (by omega)).mono ?_
        rintro e w' ⟨rfl, rfl⟩
        generalize pow2 (7 * j + 7) = q at *
        go_wp2
        go_round
        case rel => exact ⟨j + 1, by omega, by go_num⟩
        case measure => simp [intOf]; omega
      · obtain rfl : kOf n = j := by omega
        have hge : n < pow2 (7 * kOf n + 7) := kOf_ge (n := n) h8j
        go_wp2_with fail
        refine (power_any (7 * kOf n + 7) _ _ (by omega) (by omega)).mono ?_
        rintro e w' ⟨rfl, rfl⟩
        generalize pow2 (7 * kOf n + 7) = q at *
        go_wp2
        go_ret
        exact ⟨rfl, rfl⟩
    · obtain rfl : j = 8 := by omega
      go_wp2
      go_ret
      exact ⟨by rw [show kOf n = 8 by omega]; rfl, rfl⟩

theorem rones_any (k : Nat) (m : Int) (w : World) (hm : m = (k : Int)) (hk : k ≤ 8) : Calls Tryz.prog 83 #[.int .i64 m] w fun e w' => e = .returned (.int .u8 (onesN k : Nat)) ∧ w' = w := by
  subst hm
  rcases eight hk with rfl | rfl | rfl | rfl | rfl | rfl | rfl | rfl | rfl
  · go_enter Tryz.func83, Tryz.ntmps83
    go_wp2_with fail
    refine (power_any 8 _ _ rfl (by decide)).mono ?_
    rintro e w' ⟨rfl, rfl⟩
    rw [show pow2 8 = 256 from rfl]
    go_wp2
    go_ret
    exact ⟨rfl, rfl⟩
  · go_enter Tryz.func83, Tryz.ntmps83
    go_wp2_with fail
    refine (power_any 7 _ _ rfl (by decide)).mono ?_
    rintro e w' ⟨rfl, rfl⟩
    rw [show pow2 7 = 128 from rfl]
    go_wp2
    go_ret
    exact ⟨rfl, rfl⟩
  · go_enter Tryz.func83, Tryz.ntmps83
    go_wp2_with fail
    refine (power_any 6 _ _ rfl (by decide)).mono ?_
    rintro e w' ⟨rfl, rfl⟩
    rw [show pow2 6 = 64 from rfl]
    go_wp2
    go_ret
    exact ⟨rfl, rfl⟩
  · go_enter Tryz.func83, Tryz.ntmps83
    go_wp2_with fail
    refine (power_any 5 _ _ rfl (by decide)).mono ?_
    rintro e w' ⟨rfl, rfl⟩
    rw [show pow2 5 = 32 from rfl]
    go_wp2
    go_ret
    exact ⟨rfl, rfl⟩
  · go_enter Tryz.func83, Tryz.ntmps83
    go_wp2_with fail
    refine (power_any 4 _ _ rfl (by decide)).mono ?_
    rintro e w' ⟨rfl, rfl⟩
    rw [show pow2 4 = 16 from rfl]
    go_wp2
    go_ret
    exact ⟨rfl, rfl⟩
  · go_enter Tryz.func83, Tryz.ntmps83
    go_wp2_with fail
    refine (power_any 3 _ _ rfl (by decide)).mono ?_
    rintro e w' ⟨rfl, rfl⟩
    rw [show pow2 3 = 8 from rfl]
    go_wp2
    go_ret
    exact ⟨rfl, rfl⟩
  · go_enter Tryz.func83, Tryz.ntmps83
    go_wp2_with fail
    refine (power_any 2 _ _ rfl (by decide)).mono ?_
    rintro e w' ⟨rfl, rfl⟩
    rw [show pow2 2 = 4 from rfl]
    go_wp2
    go_ret
    exact ⟨rfl, rfl⟩
  · go_enter Tryz.func83, Tryz.ntmps83
    go_wp2_with fail
    refine (power_any 1 _ _ rfl (by decide)).mono ?_
    rintro e w' ⟨rfl, rfl⟩
    rw [show pow2 1 = 2 from rfl]
    go_wp2
    go_ret
    exact ⟨rfl, rfl⟩
  · go_enter Tryz.func83, Tryz.ntmps83
    go_wp2_with fail
    refine (power_any 0 _ _ rfl (by decide)).mono ?_
    rintro e w' ⟨rfl, rfl⟩
    rw [show pow2 0 = 1 from rfl]
    go_wp2
    go_ret
    exact ⟨rfl, rfl⟩

end Go.Proofs.YtlmaooeeklhelaaGreatDoor.Pk

/-
  The document's answer (chapter 2): what is laid: own, Bool, Print, Bytes, Text.
-/
namespace Go.Proofs.YtlmaooeeklhelaaGreatDoor.Pk
open Go.RowKit
set_option maxRecDepth 100000

theorem own_any (w : World) (x : Value) (b : List UInt8) (hx : Slc w x b) (hlen : b.length ≤ 140737488355328) :
    Calls Tryz.prog 82 #[x] w fun e w' => ∃ v, e = .returned v ∧ Owns w.heap.size w' v b ∧ Stay (fun _ => False) w w' := by
  obtain ⟨i0, hi, hz0, hz1, hz2⟩ := info_parts info5
  have HI := Lib.hid hi
  have HZ0 := Lib.hid hz0
  have HZ1 := Lib.hid hz1
  have HZ2 := Lib.hid hz2
  have HX := Lib.hid hx
  have how := Owns.nil w.heap.size w
  obtain ⟨a0, c, rfl, _⟩ := id hx
  clear hi hz0 hz1 hz2 hx
  go_enter Tryz.func82, Tryz.ntmps82
  go_wp2_with (at_builtin; refine wpList_append_slc rfl (.tmp 4) (.tmp 5) 37 rfl w.heap.size i0 Tryz.underlying37 HI.out HZ0.out HZ1.out HZ2.out (.slice none 0 0) _ [] b rfl rfl how HX.out (by simp; omega) (by simp) ?_; intro v' w1 hown hgr hnn)
  go_ret
  exact ⟨v', rfl, by simpa using hown, stay_seal (X := fun k => w.heap.size ≤ k) (Stay.grown (X := fun k => w.heap.size ≤ k) hgr (fun k hk => by cases hk)) (fun k hk => hk)⟩

theorem refbool_any (w : World) (x : Value) (b : List UInt8) (is : Bool) (hx : Slc w x b) (hlen : b.length + 1 ≤ 140737488355328) :
    Calls Tryz.prog 63 #[x, .bool is] w fun e w' => ∃ v, e = .returned v ∧ Owns w.heap.size w' v (b ++ boolB is) ∧ Stay (fun _ => False) w w' := by
  obtain ⟨i0, hi, hz0, hz1, hz2⟩ := info_parts info5
  have HI := Lib.hid hi
  have HZ0 := Lib.hid hz0
  have HZ1 := Lib.hid hz1
  have HZ2 := Lib.hid hz2
  clear hi hz0 hz1 hz2
  cases is
  · go_enter Tryz.func63, Tryz.ntmps63
    go_wp2_with fail
    refine (own_any w x b hx (by omega)).mono ?_
    rintro e w1 ⟨v, rfl, how, hst⟩
    obtain ⟨a1, c1, rfl⟩ := how.form
    have HO := Lib.hid (how.stay0 (Stay.alloc w1 (.cells #[.int .u8 0] 5)))
    have HS := Lib.hid (slc_one w1 0 0 rfl)
    have hz := hst.size
    clear how
    go_wp2_with (at_builtin; refine wpList_append_slc rfl (.tmp 11) (.tmp 12) 37 rfl w.heap.size i0 Tryz.underlying37 HI.out HZ0.out HZ1.out HZ2.out (.slice a1 b.length c1) _ b [0] rfl rfl HO.out HS.out (by simp; omega) (by simp; omega) ?_; intro v' w2 hown hgr hnn)
    go_ret
    exact ⟨v', rfl, hown, stay_seal (X := fun k => w.heap.size ≤ k) (((hst.trans (Stay.alloc _ _)).mono (fun _ x => x.elim)).trans (Stay.grown (X := fun k => w.heap.size ≤ k) hgr (fun k hk => (HO.out.lt k hk).1))) (fun k hk => hk)⟩
  · go_enter Tryz.func63, Tryz.ntmps63
    go_wp2_with fail
    refine (own_any w x b hx (by omega)).mono ?_
    rintro e w1 ⟨v, rfl, how, hst⟩
    obtain ⟨a1, c1, rfl⟩ := how.form
    have HO := Lib.hid (how.stay0 (Stay.alloc w1 (.cells #[.int .u8 1] 5)))
    have HS := Lib.hid (slc_one w1 1 1 rfl)
    have hz := hst.size
    clear how
    go_wp2_with (at_builtin; refine wpList_append_slc rfl (.tmp 7) (.tmp 8) 37 rfl w.heap.size i0 Tryz.underlying37 HI.out HZ0.out HZ1.out HZ2.out (.slice a1 b.length c1) _ b [1] rfl rfl HO.out HS.out (by simp; omega) (by simp; omega) ?_; intro v' w2 hown hgr hnn)
    go_ret
    exact ⟨v', rfl, hown, stay_seal (X := fun k => w.heap.size ≤ k) (((hst.trans (Stay.alloc _ _)).mono (fun _ x => x.elim)).trans (Stay.grown (X := fun k => w.heap.size ≤ k) hgr (fun k hk => (HO.out.lt k hk).1))) (fun k hk => hk)⟩

end Go.Proofs.YtlmaooeeklhelaaGreatDoor.Pk

/-
  The document's answer (chapter 2): what is laid: own, Bool, Print, Bytes, Text.
-/
namespace Go.Proofs.YtlmaooeeklhelaaGreatDoor.Pk
open Go.RowKit
set_option maxRecDepth 100000

/-- What is left of a number. -/
def quoB (n i : Nat) : Nat := n / 256 ^ i
theorem quo_succ (n i : Nat) : quoB n (i + 1) = quoB n i / 256 := by unfold quoB; rw [Nat.pow_succ, Nat.div_div_eq_div_mul]
theorem wrap64_in (n : Int) (h0 : 0 ≤ n) (h1 : n ≤ 18446744073709551615) : IntKind.u64.wrap n = n := by
  have e : IntKind.u64.wrap n = n % 18446744073709551616 := by simp [IntKind.wrap, IntKind.bits, IntKind.signed]
  rw [e]
  omega
theorem lowB_succ (n i : Nat) : lowB n (i + 1) = [UInt8.ofNat (quoB n i % 256)] ++ lowB n i := rfl

theorem refuint_any (w : World) (x : Value) (b : List UInt8) (n : Nat) (hx : Slc w x b) (hn : (n : Int) ≤ 18446744073709551615) (hlen : b.length + 9 ≤ 140737488355328) :
    Calls Tryz.prog 62 #[x, .int .u64 n] w fun e w' => ∃ v, e = .returned v ∧ Owns w.heap.size w' v (b ++ spellB n) ∧ Stay (fun _ => False) w w' := by
  obtain ⟨i0, hi, hz0, hz1, hz2⟩ := info_parts info5
  have HI := Lib.hid hi
  have HZ0 := Lib.hid hz0
  have HZ1 := Lib.hid hz1
  have HZ2 := Lib.hid hz2
  have HX := Lib.hid hx
  clear hi hz0 hz1 hz2 hx
  go_enter Tryz.func62, Tryz.ntmps62
  go_wp2_with fail
  refine (more_any n w).mono ?_
  rintro e w1 ⟨rfl, hw⟩
  subst hw
  have hk8 := kOf_le n
  go_wp2
  go_loopw [1, 6, 7, 8] (fun nv dv iv _ wr => ∃ i : Nat, i ≤ kOf n ∧ iv = .int .i64 (i : Int) ∧ nv = .int .u64 ((quoB n i : Nat) : Int) ∧ Owns w1.heap.size wr dv (lowB n i) ∧ Stay (fun k => w1.heap.size ≤ k) w1 wr) (fun _ _ iv _ _ => 8 - (intOf iv).toNat)
  case atStart => exact ⟨0, Nat.zero_le _, rfl, by simp [quoB], Owns.nil _ _, Stay.refl _ _⟩
  case round =>
    obtain ⟨i, hi, rfl, rfl, hown, hst⟩ := hrel
    obtain ⟨ad, cd, rfl⟩ := hown.form
    by_cases hlt : i < kOf n
    · have hJ : (i : Int) < (kOf n : Int) := by omega
      have hs1 := slc_one wr (UInt8.ofNat (quoB n i % 256)) ((quoB n i : Int) % 256) (by simp)
      have HS1 := Lib.hid hs1
      have HO := Lib.hid hown
      have HST := Lib.hid hst
      have hzz := hst.size
      have HLL := Lib.hid (length_lowB n i)
      have e1 : IntKind.i64.wrap ((i : Int) + 1) = (i : Int) + 1 := IntWalk.i64_in _ (by omega)
      clear hs1 hown hst
      go_wp2_with (first
        | (at_builtin; refine wpList_append_slc rfl (.tmp 16) (.tmp 20) 37 rfl w1.heap.size i0 Tryz.underlying37 HI.out HZ0.out HZ1.out HZ2.out (.slice none 0 0) _ [] [UInt8.ofNat (quoB n i % 256)] rfl rfl (Owns.nil _ _) HS1.out (by simp) (by simp; omega) ?_
           intro v2 w2 hown2 hgr2 hnn2
           obtain ⟨a2, c2, rfl⟩ := hown2.form
           have hst2 : Stay (fun _ => False) wr w2 := (Stay.alloc _ _).trans (Stay.grown (X := fun _ => False) hgr2 (fun k hk => by cases hk))
           have HO2 := Lib.hid hown2
           have HD2 := Lib.hid (HO.out.slc.stay0 hst2)
           have HST2 := Lib.hid hst2
           clear hown2 hgr2 hnn2 hst2)
        | (at_builtin; refine wpList_append_slc rfl (.tmp 21) (.tmp 22) 37 rfl w1.heap.size i0 Tryz.underlying37 HI.out HZ0.out HZ1.out HZ2.out (.slice a2 1 c2) (.slice ad (lowB n i).length cd) ([] ++ [UInt8.ofNat (quoB n i % 256)]) (lowB n i) rfl rfl HO2.out HD2.out (by rw [HLL.out]; simp; omega) (by have := HST2.out.size; omega) ?_
           intro v3 w3 hown3 hgr3 hnn3
           have HO3 := Lib.hid hown3
           have HST3 := Lib.hid ((HST2.out.mono (Y := fun k => w1.heap.size ≤ k) (fun _ x => x.elim)).trans (Stay.grown (X := fun k => w1.heap.size ≤ k) hgr3 (fun k hk => (HO2.out.lt k hk).1)))
           clear hown3 hgr3 hnn3))
      go_roundw
      case rel => exact ⟨i + 1, by omega, by go_num, by rw [quo_succ]; have hq : quoB n i ≤ n := Nat.div_le_self _ _; congr 1; rw [wrap64_in _ (by omega) (by omega)]; omega, by rw [lowB_succ]; simpa using HO3.out, HST.out.trans HST3.out⟩
      case measure => simp [intOf]; omega
    · obtain rfl : i = kOf n := by omega
      have HO := Lib.hid hown
      have HST := Lib.hid hst
      have hzz := hst.size
      clear hown hst
      go_wp2_with fail
      refine (own_any wr x b (HX.out.stay HST.out (fun k _ h1 h2 => by omega)) (by omega)).mono ?_
      rintro e w2 ⟨v2, rfl, hv2, hs2⟩
      obtain ⟨a2, c2, rfl⟩ := hv2.form
      have HV2 := Lib.hid hv2
      have HS2 := Lib.hid hs2
      have HD2 := Lib.hid (HO.out.slc.stay0 hs2)
      clear hv2 hs2
      go_wp2_with fail
      refine (rones_any (kOf n) _ w2 rfl hk8).mono ?_
      rintro e w3 ⟨rfl, hw3⟩
      subst hw3
      have HO3 := Lib.hid (HV2.out.base (base' := w1.heap.size) (fun k e => by have := HV2.out.lt k e; omega))
      have HO3' := Lib.hid (HO3.out.stay0 (Stay.alloc w3 (.cells #[.int .u8 (((onesN (kOf n) : Nat) + (quoB n (kOf n) : Nat) : Int) % 256)] 5)))
      have HS3 := Lib.hid (slc_one w3 (UInt8.ofNat (onesN (kOf n) + quoB n (kOf n))) (((onesN (kOf n) : Nat) + (quoB n (kOf n) : Nat) : Int) % 256) (by simp))
      have HLL := Lib.hid (length_lowB n (kOf n))
      have hz2 := HS2.out.size
      go_wp2_with (first
        | (at_builtin; refine wpList_append_slc rfl (.tmp 27) (.tmp 33) 37 rfl w1.heap.size i0 Tryz.underlying37 HI.out HZ0.out HZ1.out HZ2.out (.slice a2 b.length c2) _ b [UInt8.ofNat (onesN (kOf n) + quoB n (kOf n))] rfl rfl HO3'.out HS3.out (by simp; omega) (by simp; omega) ?_
           intro v4 w4 hown4 hgr4 hnn4
           obtain ⟨a4, c4, rfl⟩ := hown4.form
           rw [List.length_append, List.length_singleton] at hown4
           have HO4 := Lib.hid hown4
           have HG4 := Lib.hid hgr4
           have HD4 := Lib.hid ((HD2.out.stay0 (Stay.alloc w3 _)).stay (Stay.grown (X := fun k => (Value.slice a2 b.length c2).ownBlock = some k) hgr4 (fun k hk => hk)) (fun k h1 _ h2 => by have h3 := (HO.out.lt k h1).2; have h4 := (HV2.out.lt k h2).1; omega))
           clear hown4 hgr4 hnn4)
        | (at_builtin; refine wpList_append_slc rfl (.tmp 34) (.tmp 35) 37 rfl w1.heap.size i0 Tryz.underlying37 HI.out HZ0.out HZ1.out HZ2.out (.slice a4 (b.length + 1) c4) (.slice ad (lowB n (kOf n)).length cd) (b ++ [UInt8.ofNat (onesN (kOf n) + quoB n (kOf n))]) (lowB n (kOf n)) rfl rfl HO4.out HD4.out (by rw [HLL.out]; simp; omega) (by have := HG4.out.size; simp at this; omega) ?_
           intro v5 w5 hown5 hgr5 hnn5
           have HO5 := Lib.hid hown5
           have HG5 := Lib.hid hgr5
           clear hown5 hgr5 hnn5))
      go_ret
      have hfin : Stay (fun k => w1.heap.size ≤ k) w1 w5 := (((HST.out.trans (HS2.out.mono (fun _ x => x.elim))).trans (Stay.alloc w3 _)).trans (Stay.grown (X := fun k => w1.heap.size ≤ k) HG4.out (fun k hk => (HO3.out.lt k hk).1))).trans (Stay.grown (X := fun k => w1.heap.size ≤ k) HG5.out (fun k hk => (HO4.out.lt k hk).1))
      refine ⟨v5, rfl, ?_, stay_seal (X := fun k => w1.heap.size ≤ k) hfin (fun k hk => hk)⟩
      have h5 := HO5.out
      rw [List.append_assoc] at h5
      exact h5

end Go.Proofs.YtlmaooeeklhelaaGreatDoor.Pk

/-
  The document's answer (chapter 2): Int and Bytes.
-/
namespace Go.Proofs.YtlmaooeeklhelaaGreatDoor.Pk
open Go.RowKit
set_option maxRecDepth 100000

theorem refuint_at (w : World) (x : Value) (b : List UInt8) (n : Nat) (m : Int) (hm : m = (n : Int)) (hx : Slc w x b) (hn : (n : Int) ≤ 18446744073709551615) (hlen : b.length + 9 ≤ 140737488355328) :
    Calls Tryz.prog 62 #[x, .int .u64 m] w fun e w' => ∃ v, e = .returned v ∧ Owns w.heap.size w' v (b ++ spellB n) ∧ Stay (fun _ => False) w w' := by
  subst hm
  exact refuint_any w x b n hx hn hlen

end Go.Proofs.YtlmaooeeklhelaaGreatDoor.Pk

/-
  pack's numbers as bytes: the smaller one's bytes come first.
-/
namespace Go.Proofs.YtlmaooeeklhelaaGreatDoor.Pk

theorem ofNat_lt {a b : Nat} (ha : a < 256) (hb : b < 256) : (UInt8.ofNat a < UInt8.ofNat b) ↔ a < b := by
  rw [UInt8.lt_iff_toNat_lt, toNat_ofNat ha, toNat_ofNat hb]
theorem ofNat_eq {a b : Nat} (ha : a < 256) (hb : b < 256) : (UInt8.ofNat a == UInt8.ofNat b) = (a == b) := by
  by_cases h : a = b
  · subst h; simp
  · have h1 : UInt8.ofNat a ≠ UInt8.ofNat b := fun e => h (by have := congrArg UInt8.toNat e; rwa [toNat_ofNat ha, toNat_ofNat hb] at this)
    rw [beq_eq_false_iff_ne.2 h, beq_eq_false_iff_ne.2 h1]

theorem less_cons {a b : Nat} (ha : a < 256) (hb : b < 256) (x y : List UInt8) : Op.bytesLess (UInt8.ofNat a :: x) (UInt8.ofNat b :: y) = (decide (a < b) || (a == b && Op.bytesLess x y)) := by
  conv => lhs; unfold Op.bytesLess
  rw [ofNat_eq ha hb]
  congr 1
  rw [decide_eq_decide]
  exact ofNat_lt ha hb

theorem digits_lt {a b r s p : Nat} (hr : r < p) (hs : s < p) : (decide (a < b) || (a == b && decide (r < s))) = decide (p * a + r < p * b + s) := by
  rcases Nat.lt_trichotomy a b with h | h | h
  · have h2 : p * a + p ≤ p * b := by rw [← Nat.mul_succ]; exact Nat.mul_le_mul_left p h
    rw [decide_eq_true h, Bool.true_or, decide_eq_true (by omega)]
  · subst h
    rw [decide_eq_false (Nat.lt_irrefl a), beq_self_eq_true, Bool.false_or, Bool.true_and, decide_eq_decide]
    omega
  · have h2 : p * b + p ≤ p * a := by rw [← Nat.mul_succ]; exact Nat.mul_le_mul_left p h
    rw [decide_eq_false (by omega), beq_eq_false_iff_ne.2 (by omega), Bool.false_or, Bool.false_and, decide_eq_false (by omega)]

theorem low_less (n m : Nat) : ∀ k, Op.bytesLess (lowB n k) (lowB m k) = decide (n % 256 ^ k < m % 256 ^ k)
  | 0 => by simp [lowB, Op.bytesLess, Nat.mod_one]
  | k + 1 => by
    have hp : 0 < 256 ^ k := Nat.pow_pos (by decide)
    rw [lowB, lowB, less_cons (Nat.mod_lt _ (by decide)) (Nat.mod_lt _ (by decide)), low_less n m k, digits_lt (Nat.mod_lt _ hp) (Nat.mod_lt _ hp), Nat.pow_succ, Nat.mod_mul, Nat.mod_mul]
    rw [Nat.add_comm, Nat.add_comm (256 ^ k * (m / 256 ^ k % 256))]

theorem ones_step {K L q q' : Nat} (hL : L ≤ 8) (h : K < L) (hq : q < 2 ^ (7 - K)) : onesN K + q < onesN L + q' := by
  unfold onesN
  rcases eight hL with rfl | rfl | rfl | rfl | rfl | rfl | rfl | rfl | rfl <;> rcases eight (by omega : K ≤ 8) with rfl | rfl | rfl | rfl | rfl | rfl | rfl | rfl | rfl <;> simp only [Nat.reducePow, Nat.reduceSub] at * <;> omega

/-- The smaller number's bytes come first. -/
theorem spell_less {n m : Nat} (hn : n < 2 ^ 64) (hm : m < 2 ^ 64) : Op.bytesLess (spellB n) (spellB m) = decide (n < m) := by
  unfold spellB
  rw [less_cons (first_byte hn).1 (first_byte hm).1]
  rcases Nat.lt_trichotomy (kOf n) (kOf m) with h | h | h
  · have hlt : n < m := by
      rcases Nat.lt_or_ge n m with hlt | hge
      · exact hlt
      · have := kOf_mono hge; omega
    rw [decide_eq_true (ones_step (kOf_le m) h (first_lt hn).1), Bool.true_or, decide_eq_true hlt]
  · have hp : 0 < 256 ^ kOf m := Nat.pow_pos (by decide)
    rw [h, low_less]
    have e1 : decide (onesN (kOf m) + n / 256 ^ kOf m < onesN (kOf m) + m / 256 ^ kOf m) = decide (n / 256 ^ kOf m < m / 256 ^ kOf m) := by
      rw [decide_eq_decide]; omega
    have e2 : (onesN (kOf m) + n / 256 ^ kOf m == onesN (kOf m) + m / 256 ^ kOf m) = (n / 256 ^ kOf m == m / 256 ^ kOf m) := by
      by_cases h : n / 256 ^ kOf m = m / 256 ^ kOf m
      · rw [h]; simp
      · rw [beq_eq_false_iff_ne.2 h, beq_eq_false_iff_ne.2 (by omega)]
    rw [e1, e2, digits_lt (Nat.mod_lt _ hp) (Nat.mod_lt _ hp), Nat.div_add_mod, Nat.div_add_mod]
  · have hlt : m < n := by
      rcases Nat.lt_or_ge m n with hlt | hge
      · exact hlt
      · have := kOf_mono hge; omega
    have h2 := ones_step (q' := n / 256 ^ kOf n) (kOf_le n) h (first_lt hm).1
    rw [decide_eq_false (by omega), beq_eq_false_iff_ne.2 (by omega), Bool.false_or, Bool.false_and, decide_eq_false (by omega)]

theorem spell_len_mono {n m : Nat} (h : n ≤ m) : (spellB n).length ≤ (spellB m).length := by
  rw [length_spellB, length_spellB]
  have := kOf_mono h
  omega
theorem spell_len9 (n : Nat) : (spellB n).length ≤ 9 := by
  rw [length_spellB]
  have := kOf_le n
  omega

end Go.Proofs.YtlmaooeeklhelaaGreatDoor.Pk

/-
  The document's answer (chapter 2): the number that bytes begin with.
-/
namespace Go.Proofs.YtlmaooeeklhelaaGreatDoor.Pk
open Go.RowKit
set_option maxRecDepth 100000

/-- What the document's 'number' hands back: it, how many bytes it has, no error; or the error. -/
def RNumRet (b : List UInt8) : Except Nat (Nat × List UInt8) → Ending → Prop
  | .error c, e => e = .returned (.tuple #[.int .u64 0, .int .i64 0, .int .i64 (c : Int)])
  | .ok (n, r), e => ∃ k : Nat, k ≤ b.length ∧ r = b.drop k ∧ e = .returned (.tuple #[.int .u64 (n : Int), .int .i64 (k : Int), .int .i64 0])

theorem lead_step_table : ∀ c : Fin 256, ∀ j : Fin 8, (j.val < leadN c.val → onesN (j.val + 1) ≤ c.val) ∧ (j.val = leadN c.val → c.val < onesN (j.val + 1)) := by decide +kernel
theorem lead_step (c : UInt8) {j : Nat} (hj : j < 8) : (j < leadN c.toNat → onesN (j + 1) ≤ c.toNat) ∧ (j = leadN c.toNat → c.toNat < onesN (j + 1)) := lead_step_table ⟨c.toNat, c.toNat_lt⟩ ⟨j, hj⟩
theorem lead_ge_table : ∀ c : Fin 256, onesN (leadN c.val) ≤ c.val := by decide +kernel
theorem lead_ge (c : UInt8) : onesN (leadN c.toNat) ≤ c.toNat := lead_ge_table ⟨c.toNat, c.toNat_lt⟩

theorem more_less {N k : Nat} (hk : k ≤ 8) (h0 : 0 < k) (h : N < 2 ^ (7 * k)) : kOf N < k := by
  rcases Nat.lt_or_ge (kOf N) k with hlt | hge
  · exact hlt
  · have := kOf_lt (n := N) (j := k - 1) (by omega)
    rw [show 7 * (k - 1) + 7 = 7 * k by omega] at this
    omega
theorem more_not {N k : Nat} (hk : k ≤ 8) (h : 0 < k → 2 ^ (7 * k) ≤ N) : ¬ kOf N < k := by
  intro hlt
  have h1 := kOf_ge (n := N) (by omega)
  have h2 : 2 ^ (7 * kOf N + 7) ≤ 2 ^ (7 * k) := Nat.pow_le_pow_right (by decide) (by omega)
  have := h (by omega)
  omega

set_option maxHeartbeats 2000000 in
theorem rnum_main (c : UInt8) (r : List UInt8) (w : World) (x : Value) (hx : Slc w x (c :: r)) : Calls Tryz.prog 95 #[x] w fun e w' => RNumRet (c :: r) (numB M64 (c :: r)) e ∧ Stay (fun _ => False) w w' := by
  obtain ⟨a0, cap, rfl, hr, hn, hcap, hm⟩ := hx
  obtain ⟨ad, rfl, hcell⟩ := hr (by simp)
  have hc : w.cell? ad = some (.int .u8 (c.toNat : Int)) := hcell 0 _ rfl
  simp only [List.length_cons] at hcap hcell hn hr
  rw [List.length_cons]
  have h0 : (((r.length + 1 : Nat) : Int) == 0) = false := beq_eq_false_iff_ne.2 (by omega)
  have hl8 := leadN_le c.toNat
  have hcb := c.toNat_lt
  have hrl : (r.length : Int) ≤ 9223372036854775806 := by omega
  have HC := Lib.hid hcell
  clear hr hcell hn
  go_enter Tryz.func95, Tryz.ntmps95
  go_wp2
  go_loopw [5] (fun k wr => ∃ j : Nat, j ≤ leadN c.toNat ∧ k = .int .i64 j ∧ Stay (fun _ => False) w wr) (fun k _ => 8 - (intOf k).toNat)
  case atStart => exact ⟨0, Nat.zero_le _, rfl, Stay.refl _ _⟩
  case round =>
    obtain ⟨j, hj, rfl, hst⟩ := hrel
    have hcr := hst.cell hc (fun x => x)
    have e1 : IntKind.i64.wrap ((j : Int) + 1) = (j : Int) + 1 := IntWalk.i64_in _ (by omega)
    have hl1 : (0 : Int) < (r.length : Int) + 1 := by omega
    by_cases hlt : j < leadN c.toNat
    · have hj8 : (j : Int) < 8 := by omega
      have hge := (lead_step c (by omega : j < 8)).1 hlt
      go_wp2_with fail
      go_quiet ((go_at_call 83; exact Calls.quiet_of_same (rones_any (j + 1) _ _ (by omega) (by omega))))
      go_wp2
      go_roundw
      case rel => exact ⟨j + 1, by omega, by go_num, hst.trans (stay_drewN _ _)⟩
      case measure => simp [intOf]; omega
    · obtain rfl : leadN c.toNat = j := by omega
      have hcase : ((leadN c.toNat : Int) < 8 ∧ c.toNat < onesN (leadN c.toNat + 1)) ∨ decide ((leadN c.toNat : Int) < 8) = false := by
        by_cases h : leadN c.toNat < 8
        · exact .inl ⟨by omega, (lead_step c h).2 rfl⟩
        · exact .inr (decide_eq_false (by omega))
      have HKEY := Lib.hid (fun n => hst.trans (stay_drewN (X := fun _ => False) wr n))
      obtain ⟨h1, h2, h3⟩ := lead_first c
      have HF := Lib.hid (fun l hl => fold_small hl8 h1 h2 l hl)
      have HT := Lib.hid (fun l hl => fold_top hl8 h1 h2 l hl)
      have hlg := lead_ge c
      have e2 : IntKind.u8.wrap ((c.toNat : Int) - ((onesN (leadN c.toNat) : Nat) : Int)) = ((c.toNat - onesN (leadN c.toNat) : Nat) : Int) := by
        rw [IntWalk.u8_in _ (by omega)]
        omega
      have HE2 := Lib.hid e2
      clear hlt h1 h2 e2
      rcases hcase with ⟨hj8, hge⟩ | hd
      all_goals
        go_wp2_with fail
        first
          | go_quiet ((go_at_call 83; exact Calls.quiet_of_same (rones_any (leadN c.toNat + 1) _ _ (by omega) (by omega))))
          | go_quiet (fail)
        generalize hw2 : wr.drewN nq = w2
        have hst2 : Stay (fun _ => False) w w2 := hw2 ▸ HKEY.out nq
        have hcr2 := hst2.cell hc (fun x => x)
        have HKEY2 := Lib.hid (fun n => hst2.trans (stay_drewN (X := fun _ => False) w2 n))
        clear hw2 hst hcr HKEY
        by_cases hk : r.length < leadN c.toNat
        · have hnum : numB M64 (c :: r) = .error 12 := by
            unfold numB
            simp only []
            rw [if_pos hk]
          have HN := Lib.hid hnum
          clear hnum
          go_wp2
          go_ret3
          exact ⟨by rw [HN.out]; rfl, hst2⟩
        · go_wp2_with fail
          have e2 := HE2.out
          go_quiet ((go_at_call 83; exact Calls.quiet_of_same (rones_any (leadN c.toNat) _ _ rfl hl8)))
          clear e2
          generalize hw3 : w2.drewN nq = w3
          have hst3 : Stay (fun _ => False) w w3 := hw3 ▸ HKEY2.out nq
          clear hw3 hst2 hcr2 HKEY2
          go_wp2
          go_loop [6, 7] (fun n i => ∃ j : Nat, j ≤ leadN c.toNat ∧ i = .int .i64 ((j + 1 : Nat) : Int) ∧ n = .int .u64 ((foldB (c.toNat - onesN (leadN c.toNat)) (r.take j) : Nat) : Int)) (fun _ i => leadN c.toNat + 1 - (intOf i).toNat)
          case atStart => exact ⟨0, Nat.zero_le _, rfl, rfl⟩
          case round =>
            obtain ⟨j, hj, rfl, rfl⟩ := hrel
            by_cases hlt : j < leadN c.toNat
            · obtain ⟨b, hb⟩ : ∃ b, r[j]? = some b := ⟨_, List.getElem?_eq_getElem (by omega)⟩
              have hcj := hst3.cell (HC.out (j + 1) (byteV b) (by simp [cellsB, hb])) (fun x => x)
              unfold byteV at hcj
              have hcj2 := hcj
              unfold Addr.add at hcj2
              rw [if_neg (by omega)] at hcj2
              have HS := Lib.hid (show foldB (c.toNat - onesN (leadN c.toNat)) (r.take (j + 1)) = foldB (c.toNat - onesN (leadN c.toNat)) (r.take j) * 256 + b.toNat by rw [List.take_add_one, hb]; exact foldB_snoc _ _ _)
              have hsm := HF.out (r.take j) (by rw [List.length_take]; omega)
              have hbb := b.toNat_lt
              clear hb
              generalize foldB (c.toNat - onesN (leadN c.toNat)) (r.take j) = F at *
              go_wp2
              go_round
              case rel => exact ⟨j + 1, by omega, by go_num, by rw [HS.out]; congr 1; omega⟩
              case measure => simp [intOf]; omega
            · obtain rfl : leadN c.toNat = j := by omega
              obtain ⟨N, hN⟩ : ∃ N, N = foldB (c.toNat - onesN (leadN c.toNat)) (r.take (leadN c.toNat)) := ⟨_, rfl⟩
              have hNt : N < 18446744073709551616 := by rw [hN]; exact HT.out _ (by rw [List.length_take]; omega)
              have HN := Lib.hid hN
              rw [← hN]
              have hk8 := kOf_le N
              clear hN hlt
              by_cases hform : 0 < leadN c.toNat ∧ N < 2 ^ (7 * leadN c.toNat)
              · have hnum := Lib.hid (numB_form (most := M64) (Nat.le_of_not_lt hk) hform.1 HN.out hform.2)
                have hm := more_less hl8 hform.1 hform.2
                clear hform
                go_wp2_with fail
                refine (more_any N w3).mono ?_
                rintro e w4 ⟨rfl, rfl⟩
                go_wp2
                go_ret3
                exact ⟨by rw [hnum.out]; rfl, hst3⟩
              · have hge : 0 < leadN c.toNat → 2 ^ (7 * leadN c.toNat) ≤ N := fun h => Nat.le_of_not_lt (fun h' => hform ⟨h, h'⟩)
                have hnum := Lib.hid (numB_ok (most := M64) (Nat.le_of_not_lt hk) HN.out hge (by unfold M64; omega))
                have hm := more_not hl8 hge
                clear hform hge
                go_wp2_with fail
                refine (more_any N w3).mono ?_
                rintro e w4 ⟨rfl, rfl⟩
                go_wp2
                go_ret3
                refine ⟨?_, hst3⟩
                rw [hnum.out]
                exact ⟨leadN c.toNat + 1, by simp; omega, rfl, rfl⟩

theorem rnum_any (b : List UInt8) (w : World) (x : Value) (hx : Slc w x b) : Calls Tryz.prog 95 #[x] w fun e w' => RNumRet b (numB M64 b) e ∧ Stay (fun _ => False) w w' := by
  cases b with
  | nil =>
    obtain ⟨a0, c, rfl, _⟩ := hx
    go_enter Tryz.func95, Tryz.ntmps95
    go_wp2
    go_ret3
    exact ⟨rfl, Stay.refl _ _⟩
  | cons c r => exact rnum_main c r w x hx

end Go.Proofs.YtlmaooeeklhelaaGreatDoor.Pk

/-
  The document's answer (chapter 2): a reader's Uint, Int, and what it says at its end.
-/
namespace Go.Proofs.YtlmaooeeklhelaaGreatDoor.Pk
open Go.RowKit
set_option maxRecDepth 100000

/-- The document's reader: what is left, the first error. -/
def rdV (x : Value) (err : Nat) : Value := .agg #[x, .int .i64 (err : Int)]

theorem fail_new (a0 : Option Addr) (n c e : Nat) (m : Int) (w : World) (hm : m = (e : Int)) : Calls Tryz.prog 96 #[.agg #[.slice a0 n c, .int .i64 0], .int .i64 m] w fun en w' => en = .returned (rdV (.slice a0 n c) e) ∧ Stay (fun _ => False) w w' := by
  subst hm
  go_enter Tryz.func96, Tryz.ntmps96
  go_wp2
  exact bodyPost_ret (v := rdV (.slice a0 n c) e) (by simp [results, Tryz.results96, go_sem]; rfl) rfl ⟨rfl, (Stay.alloc _ _).trans (Stay.alloc _ _)⟩

theorem fail_old (a0 : Option Addr) (n c e : Nat) (m : Int) (w : World) (he : e ≠ 0) : Calls Tryz.prog 96 #[.agg #[.slice a0 n c, .int .i64 (e : Int)], .int .i64 m] w fun en w' => en = .returned (rdV (.slice a0 n c) e) ∧ Stay (fun _ => False) w w' := by
  have hb : ((e : Int) == 0) = false := beq_eq_false_iff_ne.2 (by omega)
  go_enter Tryz.func96, Tryz.ntmps96
  go_wp2
  exact bodyPost_ret (v := rdV (.slice a0 n c) e) (by simp [results, Tryz.results96, go_sem]; rfl) rfl ⟨rfl, (Stay.alloc _ _).trans (Stay.alloc _ _)⟩

theorem numB_error_of {most c : Nat} {b : List UInt8} (hm : most ≤ M64) (h : numB M64 b = .error c) : numB most b = .error c := by
  cases b with
  | nil => exact h
  | cons d l =>
    unfold numB at *
    simp only [] at *
    split
    · rename_i h1
      rw [if_pos h1] at h
      exact h
    · rename_i h1
      rw [if_neg h1] at h
      split
      · rename_i h2
        rw [if_pos h2] at h
        exact h
      · rename_i h2
        rw [if_neg h2] at h
        split at h
        · rw [if_pos (by omega)]
          exact h
        · cases h
theorem numB_ok_of {most n : Nat} {b r : List UInt8} (h : numB M64 b = .ok (n, r)) : numB most b = if most < n then .error 4 else .ok (n, r) := by
  cases b with
  | nil => cases h
  | cons d l =>
    unfold numB at *
    simp only [] at *
    split
    · rename_i h1
      rw [if_pos h1] at h
      cases h
    · rename_i h1
      rw [if_neg h1] at h
      split
      · rename_i h2
        rw [if_pos h2] at h
        cases h
      · rename_i h2
        rw [if_neg h2] at h
        split at h
        · cases h
        · cases h
          rfl

/-- What the document's reader hands back with a thing. -/
def RdRet {α : Type} (val : α → Value) (w : World) (x : Value) (t : α × RS) (e : Ending) : Prop := ∃ x', e = .returned (.tuple #[rdV x' t.2.err, val t.1]) ∧ Sub w x x' t.2.b

theorem Sub.refl {w : World} {x : Value} {b : List UInt8} (h : Slc w x b) : Sub w x x b := ⟨h, fun _ e => e⟩

theorem two_cells {w : World} {b : Nat} {v0 v1 : Value} {t : TypeId} (h : w.heap[b]? = some (.cells #[v0, v1] t (0, 0))) : w.cell? ⟨b, 0, none⟩ = some v0 ∧ w.cell? ⟨b, 1, none⟩ = some v1 ∧ w.frozen? ⟨b, 0, none⟩ = false ∧ w.frozen? ⟨b, 1, none⟩ = false :=
  ⟨by rw [cell_of_row w b 0 _ _ _ h]; rfl, by rw [cell_of_row w b 1 _ _ _ h]; rfl, frozen_of_row w b 0 _ _ h, frozen_of_row w b 1 _ _ h⟩
theorem two_boxes {w w1 : World} {A B : Obj} (hs : Stay (fun _ => False) ((w.alloc A).alloc B) w1) : w1.heap[w.heap.size]? = some A ∧ w1.heap[w.heap.size + 1]? = some B := by
  have h1 : ((w.alloc A).alloc B).heap[w.heap.size]? = some A := (Below.heap_alloc (w.alloc A) B w.heap.size (by simp)).trans (heap_alloc_new w A)
  have h2 : ((w.alloc A).alloc B).heap[w.heap.size + 1]? = some B := by
    have := heap_alloc_new (w.alloc A) B
    simpa using this
  exact ⟨(hs.block _ (by simp; omega) (fun x => x)).trans h1, (hs.block _ (by simp) (fun x => x)).trans h2⟩

theorem stay_set2 {w w2 : World} {B : Nat} (h : Stay (fun _ => False) w w2) (hB : w.heap.size ≤ B) (u v : Value) : Stay (fun _ => False) w ((w2.setCell ⟨B, 0, none⟩ u).setCell ⟨B, 1, none⟩ v) :=
  stay_seal (X := fun k => w.heap.size ≤ k) (((h.mono (fun _ x => x.elim)).trans (Stay.setCell _ _ _ hB)).trans (Stay.setCell _ _ _ hB)) (fun _ hk => hk)
theorem stay_set3 {w w2 : World} {A B : Nat} (h : Stay (fun _ => False) w w2) (hA : w.heap.size ≤ A) (hB : w.heap.size ≤ B) (t u v : Value) : Stay (fun _ => False) w (((w2.setCell ⟨A, 0, none⟩ t).setCell ⟨B, 0, none⟩ u).setCell ⟨B, 1, none⟩ v) :=
  stay_seal (X := fun k => w.heap.size ≤ k) ((((h.mono (fun _ x => x.elim)).trans (Stay.setCell _ _ _ hA)).trans (Stay.setCell _ _ _ hB)).trans (Stay.setCell _ _ _ hB)) (fun _ hk => hk)

set_option maxHeartbeats 2000000 in
theorem rruint_any (b : List UInt8) (err : Nat) (most : Nat) (w : World) (x : Value) (hx : Slc w x b) (hm : most ≤ M64) : Calls Tryz.prog 79 #[rdV x err, .int .u64 most] w fun e w' => RdRet u64V w' x (takeB (numB most) 0 ⟨b, err⟩) e ∧ Stay (fun _ => False) w w' := by
  have HX := Lib.hid hx
  obtain ⟨a0, cap, rfl, hr, hn, hcap, hcm⟩ := hx
  unfold rdV
  by_cases he : err = 0
  · subst he
    obtain ⟨TK, htk⟩ : ∃ TK, TK = takeB (numB most) 0 ⟨b, 0⟩ := ⟨_, rfl⟩
    rw [← htk]
    have HT := Lib.hid htk
    have HR := Lib.hid hr
    clear htk hr hn
    go_enter Tryz.func79, Tryz.ntmps79
    go_wp2_with fail
    refine (rnum_any b _ _ (HX.out.stay0 ((Stay.alloc _ _).trans (Stay.alloc _ _)))).mono ?_
    rintro e w1 ⟨hret, hs1⟩
    obtain ⟨hb0, hb1⟩ := two_boxes hs1
    obtain ⟨c00, c01, f00, f01⟩ := two_cells hb0
    obtain ⟨c10, c11, f10, f11⟩ := two_cells hb1
    have hst : Stay (fun _ => False) w w1 := ((Stay.alloc _ _).trans (Stay.alloc _ _)).trans hs1
    have HB1 := Lib.hid hb1
    clear hb0 hb1 hs1
    cases hnr : numB M64 b with
    | error c =>
      rw [hnr] at hret
      obtain rfl := hret
      have hc0 := numB_err hnr
      have hcb : ((c : Int) == 0) = false := beq_eq_false_iff_ne.2 (by omega)
      have HTK := Lib.hid (HT.out.trans (takeB_error (zero := 0) (s := ⟨b, 0⟩) rfl (numB_error_of hm hnr)))
      clear hnr hc0
      go_wp2_with fail
      refine (fail_new _ _ _ c _ _ rfl).mono ?_
      rintro e w2 ⟨rfl, hs2⟩
      have hst2 := hst.trans hs2
      obtain ⟨d10, d11, g10, g11⟩ := two_cells ((hs2.block _ (lt_of_block HB1.out) (fun x => x)).trans HB1.out)
      clear c00 c01 f00 f01 c10 c11 f10 f11 hst hs2
      unfold rdV
      go_wp2
      have hfin := stay_set2 (B := w.heap.size + 1) hst2 (by omega) (.slice a0 b.length cap) (.int .i64 (c : Int))
      refine bodyPost_ret (v := .tuple #[rdV (.slice a0 b.length cap) c, .int .u64 0]) (by simp [results, Tryz.results79, go_sem, d10, d11]; rfl) rfl ⟨?_, hfin⟩
      rw [HTK.out]
      exact ⟨_, rfl, Sub.stay0 (Sub.refl HX.out) hfin⟩
    | ok p =>
      obtain ⟨n, r⟩ := p
      rw [hnr] at hret
      obtain ⟨k, hk, hrk, rfl⟩ := hret
      subst hrk
      have hnm := numB_ok_of (most := most) hnr
      have hnl := numB_le hnr
      unfold M64 at hnl
      by_cases hlt : most < n
      · rw [if_pos hlt] at hnm
        have HTK := Lib.hid (HT.out.trans (takeB_error (zero := 0) (s := ⟨b, 0⟩) rfl hnm))
        clear hnr hnm
        go_wp2_with fail
        refine (fail_new _ _ _ 4 _ _ rfl).mono ?_
        rintro e w2 ⟨rfl, hs2⟩
        have hst2 := hst.trans hs2
        obtain ⟨d10, d11, g10, g11⟩ := two_cells ((hs2.block _ (lt_of_block HB1.out) (fun x => x)).trans HB1.out)
        clear c00 c01 f00 f01 c10 c11 f10 f11 hst hs2
        unfold rdV
        go_wp2
        have hfin := stay_set2 (B := w.heap.size + 1) hst2 (by omega) (.slice a0 b.length cap) (.int .i64 (4 : Int))
        refine bodyPost_ret (v := .tuple #[rdV (.slice a0 b.length cap) 4, .int .u64 0]) (by simp [results, Tryz.results79, go_sem, d10, d11]; rfl) rfl ⟨?_, hfin⟩
        rw [HTK.out]
        exact ⟨_, rfl, Sub.stay0 (Sub.refl HX.out) hfin⟩
      · rw [if_neg hlt] at hnm
        have HTK := Lib.hid (HT.out.trans (takeB_ok (zero := 0) (s := ⟨b, 0⟩) rfl hnm))
        have HSub := Lib.hid (HX.out.cut hk)
        have hcases : cap = k ∨ ¬ cap = k := by omega
        clear hnr hnm hcap
        rcases hcases with hck | hck
        · subst hck
          go_wp2
          have hfin := stay_set3 (A := w.heap.size) (B := w.heap.size + 1) hst (by omega) (by omega) (.slice a0 (b.length - cap) 0) (.slice a0 (b.length - cap) 0) (.int .i64 (0 : Int))
          refine bodyPost_ret (v := .tuple #[rdV (.slice a0 (b.length - cap) 0) 0, .int .u64 (n : Int)]) (by simp [results, Tryz.results79, go_sem, c10, c11]; rfl) rfl ⟨?_, hfin⟩
          rw [HTK.out]
          refine ⟨_, rfl, Sub.stay0 (w := w) ?_ hfin⟩
          have hs := HSub.out
          rw [if_pos trivial, Nat.sub_self] at hs
          exact hs
        · go_wp2
          have hfin := stay_set3 (A := w.heap.size) (B := w.heap.size + 1) hst (by omega) (by omega) (.slice (a0.map (fun x => x.add k)) (b.length - k) (cap - k)) (.slice (a0.map (fun x => x.add k)) (b.length - k) (cap - k)) (.int .i64 (0 : Int))
          refine bodyPost_ret (v := .tuple #[rdV (.slice (a0.map (fun x => x.add k)) (b.length - k) (cap - k)) 0, .int .u64 (n : Int)]) (by simp [results, Tryz.results79, go_sem, c10, c11]; rfl) rfl ⟨?_, hfin⟩
          rw [HTK.out]
          refine ⟨_, rfl, Sub.stay0 (w := w) ?_ hfin⟩
          have hs := HSub.out
          rw [if_neg hck] at hs
          exact hs
  · have hb : ((err : Int) == 0) = false := beq_eq_false_iff_ne.2 (by omega)
    rw [takeB_bad he]
    go_enter Tryz.func79, Tryz.ntmps79
    go_wp2
    refine bodyPost_ret (v := .tuple #[rdV (.slice a0 b.length cap) err, .int .u64 0]) (by simp [results, Tryz.results79, go_sem]; rfl) rfl ⟨⟨_, rfl, Sub.stay0 (Sub.refl HX.out) ((Stay.alloc _ _).trans (Stay.alloc _ _))⟩, (Stay.alloc _ _).trans (Stay.alloc _ _)⟩

end Go.Proofs.YtlmaooeeklhelaaGreatDoor.Pk

/-
  The document's answer (chapter 2): a reader's Int; what it says at its end.
-/
namespace Go.Proofs.YtlmaooeeklhelaaGreatDoor.Pk
open Go.RowKit
set_option maxRecDepth 100000

theorem sigB_cons (c : UInt8) (r : List UInt8) (h : ¬ 1 < c.toNat) : sigB (c :: r) = match numB M63 r with
    | .error e => .error e
    | .ok (n, r2) => .ok (if (c.toNat == 1) = true then -1 - (n : Int) else (n : Int), r2) := by
  unfold sigB
  have : truB (c :: r) = .ok (c.toNat == 1, r) := by simp [truB, h]
  rw [this]
  simp only []
  cases numB M63 r <;> rfl
theorem Slc.ad_lt {w : World} {ad : Addr} {n cap : Nat} {c : UInt8} {r : List UInt8} (h : Slc w (.slice (some ad) n cap) (c :: r)) : w.cell? ad = some (.int .u8 (c.toNat : Int)) ∧ ad.block < w.heap.size := by
  obtain ⟨a0, c0, e, hr, _⟩ := h
  cases e
  obtain ⟨ad', e, hc⟩ := hr (by simp)
  cases e
  have h0 : w.cell? ad = some (.int .u8 (c.toNat : Int)) := hc 0 _ rfl
  exact ⟨h0, World.block_lt_of_cell? w ad h0⟩

theorem rruint_at (b : List UInt8) (err most : Nat) (m : Int) (w : World) (x v : Value) (hm' : m = (most : Int)) (hv : v = rdV x err) (hx : Slc w x b) (hm : most ≤ M64) : Calls Tryz.prog 79 #[v, .int .u64 m] w fun e w' => RdRet u64V w' x (takeB (numB most) 0 ⟨b, err⟩) e ∧ Stay (fun _ => False) w w' := by
  subst hm'
  subst hv
  exact rruint_any b err most w x hx hm

theorem Sub.stayB {B : Nat} {w w' : World} {x v : Value} {r : List UInt8} (h : Sub w x v r) (hx : ∀ k, x.ownBlock = some k → k < B) (hs : Stay (fun k => B ≤ k) w w') : Sub w' x v r :=
  ⟨h.1.stay hs (fun k e _ hB => by have h1 := hx k (h.2 k e); omega), h.2⟩
theorem stayB_set2 {B C : Nat} (w : World) (hB : B ≤ C) (u v : Value) (o : Obj) : Stay (fun k => B ≤ k) w (((w.setCell ⟨C, 0, none⟩ u).setCell ⟨C, 1, none⟩ v).alloc o) :=
  ((Stay.setCell _ _ _ hB).trans (Stay.setCell _ _ _ hB)).trans (Stay.alloc _ _)

theorem i64_neg (n : Nat) (h : n ≤ 9223372036854775807) : IntKind.i64.wrap (-(n : Int)) = -(n : Int) := IntWalk.i64_in _ (by omega)

end Go.Proofs.YtlmaooeeklhelaaGreatDoor.Pk

/-
  The document's answer (chapter 2): a reader's Bool and Count.
-/
namespace Go.Proofs.YtlmaooeeklhelaaGreatDoor.Pk
open Go.RowKit
set_option maxRecDepth 100000

set_option maxHeartbeats 2000000 in
theorem rrbool_any (b : List UInt8) (err : Nat) (w : World) (x : Value) (hx : Slc w x b) : Calls Tryz.prog 80 #[rdV x err] w fun e w' => RdRet boolV w' x (takeB truB false ⟨b, err⟩) e ∧ Stay (fun _ => False) w w' := by
  have HX := Lib.hid hx
  unfold rdV
  by_cases he : err = 0
  · subst he
    cases b with
    | nil =>
      obtain ⟨a0, cap, rfl, hr, hn, hcap, hcm⟩ := hx
      rw [takeB_error (s := ⟨[], 0⟩) (c := 12) rfl rfl]
      clear hr hn
      go_enter Tryz.func80, Tryz.ntmps80
      go_wp2_with fail
      refine (fail_new _ _ _ 12 _ _ rfl).mono ?_
      rintro e w2 ⟨rfl, hs2⟩
      obtain ⟨hb0, hb1⟩ := two_boxes hs2
      obtain ⟨d10, d11, g10, g11⟩ := two_cells hb1
      have hst2 : Stay (fun _ => False) w w2 := ((Stay.alloc _ _).trans (Stay.alloc _ _)).trans hs2
      clear hs2 hb0 hb1
      unfold rdV
      go_wp2
      have hfin := stay_set2 (B := w.heap.size + 1) hst2 (by omega) (.slice a0 0 cap) (.int .i64 (12 : Int))
      refine bodyPost_ret (v := .tuple #[rdV (.slice a0 0 cap) 12, .bool false]) (by simp [results, Tryz.results80, go_sem, d10, d11]; rfl) rfl ⟨⟨_, rfl, Sub.stay0 (Sub.refl HX.out) hfin⟩, hfin⟩
    | cons c r =>
      obtain ⟨a0, cap, rfl, hr, hn, hcap, hcm⟩ := hx
      obtain ⟨ad, rfl, hcell⟩ := hr (by simp)
      have hc : w.cell? ad = some (.int .u8 (c.toNat : Int)) := hcell 0 _ rfl
      have hadl := World.block_lt_of_cell? w ad hc
      have hcb := c.toNat_lt
      have hcut := Slc.cut (k := 1) HX.out (by simp)
      rw [List.drop_succ_cons, List.drop_zero] at hcut
      rw [List.length_cons] at *
      have hl0 : (((r.length + 1 : Nat) : Int) == 0) = false := beq_eq_false_iff_ne.2 (by omega)
      have hl1 : (0 : Int) < ((r.length + 1 : Nat) : Int) := by omega
      have hrl : (r.length : Int) ≤ 9223372036854775806 := by omega
      have hcw : ((w.alloc (.cells #[.slice (some ad) (r.length + 1) cap, .int .i64 0] 149)).alloc (.cells #[.slice none 0 0, .int .i64 0] 149)).cell? ad = some (.int .u8 (c.toNat : Int)) := by
        rw [World.cell?_alloc_lt _ _ ad (by simp; omega), World.cell?_alloc_lt _ _ ad hadl]
        exact hc
      clear hr hn hcell hc
      have HCU := Lib.hid hcut
      clear hcut
      by_cases h1 : 1 < c.toNat
      · have ht : truB (c :: r) = .error 3 := by simp [truB, h1]
        rw [takeB_error (s := ⟨c :: r, 0⟩) (c := 3) rfl ht]
        clear ht
        go_enter Tryz.func80, Tryz.ntmps80
        go_wp2_with fail
        refine (fail_new _ _ _ 3 _ _ rfl).mono ?_
        rintro e w2 ⟨rfl, hs2⟩
        obtain ⟨hb0, hb1⟩ := two_boxes hs2
        obtain ⟨d10, d11, g10, g11⟩ := two_cells hb1
        have hst2 : Stay (fun _ => False) w w2 := ((Stay.alloc _ _).trans (Stay.alloc _ _)).trans hs2
        clear hs2 hb0 hb1
        unfold rdV
        go_wp2
        have hfin := stay_set2 (B := w.heap.size + 1) hst2 (by omega) (.slice (some ad) (r.length + 1) cap) (.int .i64 (3 : Int))
        refine bodyPost_ret (v := .tuple #[rdV (.slice (some ad) (r.length + 1) cap) 3, .bool false]) (by simp [results, Tryz.results80, go_sem, d10, d11]; rfl) rfl ⟨⟨_, rfl, Sub.stay0 (Sub.refl HX.out) hfin⟩, hfin⟩
      · have ht : truB (c :: r) = .ok (c.toNat == 1, r) := by simp [truB, h1]
        rw [takeB_ok (s := ⟨c :: r, 0⟩) rfl ht]
        clear ht
        have hcut := HCU.out
        rw [Option.map_some, Nat.add_sub_cancel] at hcut
        have hq : ((c.toNat : Int) == 1) = (c.toNat == 1) := by
          by_cases h : c.toNat = 1
          · rw [h]; rfl
          · rw [beq_eq_false_iff_ne.2 h, beq_eq_false_iff_ne.2 (by omega)]
        generalize (c.toNat == 1) = q at hq ⊢
        have hcases : cap = 1 ∨ ¬ cap = 1 := by omega
        rcases hcases with hck | hck
        · subst hck
          have hr0 : r.length = 0 := by omega
          rw [if_pos rfl, Nat.sub_self, show Value.slice (some ad) r.length 0 = .slice (some ad) 0 0 by rw [hr0]] at hcut
          clear hr0
          have HCUT := Lib.hid hcut
          clear hcut
          go_enter Tryz.func80, Tryz.ntmps80
          go_wp2
          refine bodyPost_ret (v := .tuple #[rdV (.slice (some ad) 0 0) 0, .bool q]) (by simp [results, Tryz.results80, go_sem]; rfl) rfl ⟨⟨_, rfl, Sub.stay0 HCUT.out ((Stay.alloc _ _).trans (Stay.alloc _ _))⟩, (Stay.alloc _ _).trans (Stay.alloc _ _)⟩
        · rw [if_neg hck] at hcut
          have HCUT := Lib.hid hcut
          clear hcut
          go_enter Tryz.func80, Tryz.ntmps80
          go_wp2
          refine bodyPost_ret (v := .tuple #[rdV (.slice (some (ad.add 1)) r.length (cap - 1)) 0, .bool q]) (by simp [results, Tryz.results80, go_sem]; rfl) rfl ⟨⟨_, rfl, Sub.stay0 HCUT.out ((Stay.alloc _ _).trans (Stay.alloc _ _))⟩, (Stay.alloc _ _).trans (Stay.alloc _ _)⟩
  · have hb : ((err : Int) == 0) = false := beq_eq_false_iff_ne.2 (by omega)
    rw [takeB_bad he]
    obtain ⟨a0, cap, rfl, hr, hn, hcap, hcm⟩ := hx
    clear hr hn
    go_enter Tryz.func80, Tryz.ntmps80
    go_wp2
    refine bodyPost_ret (v := .tuple #[rdV (.slice a0 b.length cap) err, .bool false]) (by simp [results, Tryz.results80, go_sem]; rfl) rfl ⟨⟨_, rfl, Sub.stay0 (Sub.refl HX.out) ((Stay.alloc _ _).trans (Stay.alloc _ _))⟩, (Stay.alloc _ _).trans (Stay.alloc _ _)⟩

end Go.Proofs.YtlmaooeeklhelaaGreatDoor.Pk

/-
  The document's toggle (drydockref04): half, Room, place, Teller.
-/
namespace Go.Proofs.YtlmaooeeklhelaaGreatDoor.Tg
open Go.RowKit Pk
set_option maxRecDepth 100000

theorem rhalf_any (f s : Int) (w : World) (h0 : 3 ≤ s) (h1 : s ≤ 9223372036854775807) :
    Calls Tryz.prog 61 #[areaV f s] w fun e w' => e = .returned (.int .i64 ((s - 1) / 2)) ∧ Stay (fun _ => False) w w' := by
  have e1 : wrap64 (s - 1) = s - 1 := by unfold wrap64; omega
  have e2 : (s - 1).tdiv 2 = (s - 1) / 2 := Int.tdiv_eq_ediv_of_nonneg (by omega)
  have e3 : wrap64 ((s - 1) / 2) = (s - 1) / 2 := by unfold wrap64; omega
  unfold areaV
  go_enter Tryz.func61, Tryz.ntmps61
  go_wp2
  go_ret
  exact ⟨rfl, Stay.alloc _ _⟩

theorem rroom_any (f s : Int) (w : World) :
    Calls Tryz.prog 40 #[areaV f s, .int .i64 16384] w fun e w' => e = .returned (.int .i64 (roomI s)) ∧ Stay (fun _ => False) w w' := by
  by_cases h1 : s < 3
  · have e1 : roomI s = 0 := if_pos (Or.inl h1)
    rw [e1]
    unfold areaV
    go_enter Tryz.func40, Tryz.ntmps40
    go_wp2
    go_ret
    exact ⟨rfl, Stay.alloc _ _⟩
  by_cases h2 : 16384 < s
  · have e1 : roomI s = 0 := if_pos (Or.inr h2)
    rw [e1]
    unfold areaV
    go_enter Tryz.func40, Tryz.ntmps40
    go_wp2
    go_ret
    exact ⟨rfl, Stay.alloc _ _⟩
  · have e1 : roomI s = 64 * ((s - 1) / 2) := if_neg (by omega)
    rw [e1]
    have hh := fun w => rhalf_any f s w (by omega) (by omega)
    unfold areaV at hh ⊢
    go_enter Tryz.func40, Tryz.ntmps40
    go_wp2_with fail
    refine (hh _).mono ?_
    rintro e w' ⟨rfl, hs⟩
    go_wp2
    go_ret
    exact ⟨rfl, (Stay.alloc _ _).trans hs⟩

theorem rplace_any (f s : Int) (b : Bool) (w : World) (f0 : 0 ≤ f) (f1 : f ≤ 16384) (s0 : 3 ≤ s) (s1 : s ≤ 16384) :
    Calls Tryz.prog 41 #[areaV f s, .bool b] w fun e w' => e = .returned (.int .i64 (placeI f s b)) ∧ Stay (fun _ => False) w w' := by
  cases b
  · unfold areaV placeI
    go_enter Tryz.func41, Tryz.ntmps41
    go_wp2
    go_ret
    exact ⟨rfl, Stay.alloc _ _⟩
  · have e1 : placeI f s true = f + 1 + (s - 1) / 2 := if_pos rfl
    rw [e1]
    clear e1
    obtain ⟨q, hq, hq0, hq1⟩ : ∃ q, q = (s - 1) / 2 ∧ 0 ≤ q ∧ q ≤ 16384 := ⟨_, rfl, by omega, by omega⟩
    have hh : ∀ W, Calls Tryz.prog 61 #[.agg #[.int .i64 f, .int .i64 s]] W fun e w' => e = .returned (.int .i64 q) ∧ Stay (fun _ => False) W w' := fun W => by rw [hq]; exact rhalf_any f s W s0 (by omega)
    rw [← hq]
    clear hq
    have HH := Lib.hid hh
    clear hh
    unfold areaV
    go_enter Tryz.func41, Tryz.ntmps41
    go_wp2
    obtain ⟨D, hDd⟩ : ∃ D : World → Prop, D = Stay (fun _ => False) (w.alloc (.cells #[.int .i64 f, .int .i64 s] 23)) := ⟨_, rfl⟩
    have HD := Lib.hid (show ∀ W, D W → Stay (fun _ => False) (w.alloc (.cells #[.int .i64 f, .int .i64 s] 23)) W by intro W h; rw [hDd] at h; exact h)
    have HDm := Lib.hid (show ∀ W, Stay (fun _ => False) (w.alloc (.cells #[.int .i64 f, .int .i64 s] 23)) W → D W by intro W h; rw [hDd]; exact h)
    clear hDd
    have HN0 := Lib.hid (HDm.out _ Stay.drew)
    have hb := heap_alloc_new w (.cells #[.int .i64 f, .int .i64 s] 23)
    have k0 : ∀ i : InC D, i.w.cell? ⟨w.heap.size, 0, none⟩ = some (.int .i64 f) := fun i => cell_of_row i.w _ 0 _ _ _ (((HD.out _ i.h).block _ (by simp) (fun x => x)).trans hb)
    have k1 : ∀ i : InC D, i.w.cell? ⟨w.heap.size, 1, none⟩ = some (.int .i64 s) := fun i => cell_of_row i.w _ 1 _ _ _ (((HD.out _ i.h).block _ (by simp) (fun x => x)).trans hb)
    have H1 := Lib.hid (show ∀ W, D W → Calls Tryz.prog 61 #[.agg #[.int .i64 f, .int .i64 s]] W fun e w' => e = .returned (.int .i64 q) ∧ D w' from fun W h => (HH.out W).mono fun e w' ⟨h1, h2⟩ => ⟨h1, HDm.out _ ((HD.out W h).trans h2)⟩)
    clear hb
    haveI : Nonempty (InC D) := ⟨⟨_, HN0.out⟩⟩
    refine wp_region_class D HN0.out (by kernel_rfl) (by kernel_rfl) ?_
    repeat (go_big_quiet_step ((first
      | with_reducible exact calls_class H1.out)))
    refine wpQuiet_nil ?_
    rintro W ⟨i, rfl⟩
    have hst := HD.out _ i.h
    clear k0 k1
    generalize i.w = w9 at *
    go_wp2
    go_ret
    exact ⟨rfl, (Stay.alloc _ _).trans hst⟩

set_option maxHeartbeats 1000000 in
theorem rteller_any (n m : Nat) (b : Bool) (w : World) (hn : (n : Int) ≤ 18446744073709551615) (hm : (m : Int) ≤ 9223372036854775807) :
    Calls Tryz.prog 43 #[.int .u64 (n : Int), .bool b, .int .i64 (m : Int)] w fun e w' => ∃ v, e = .returned v ∧ Owns w.heap.size w' v (tellB n b m) ∧ Stay (fun _ => False) w w' := by
  go_enter Tryz.func43, Tryz.ntmps43
  go_wp2_with fail
  refine (refuint_at w (.slice none 0 0) [] n _ rfl (Owns.nil 0 w).slc hn (by simp)).mono ?_
  rintro e w1 ⟨v1, rfl, ho1, s1⟩
  have HO1 := Lib.hid ho1
  have HS1 := Lib.hid s1
  clear ho1 s1
  go_wp2_with fail
  refine (refbool_any w1 v1 _ b HO1.out.slc (by have := spell_len9 n; simp; omega)).mono ?_
  rintro e w2 ⟨v2, rfl, ho2, s2⟩
  have HO2 := Lib.hid ho2
  have HS2 := Lib.hid (HS1.out.trans s2)
  clear ho2 s2
  go_wp2_with fail
  refine (refuint_at w2 v2 _ m _ rfl HO2.out.slc (by omega) (by have := spell_len9 n; simp [boolB]; omega)).mono ?_
  rintro e w3 ⟨v3, rfl, ho3, s3⟩
  have HO3 := Lib.hid ho3
  have HS3 := Lib.hid (HS2.out.trans s3)
  have HSZ := Lib.hid (show w.heap.size ≤ w2.heap.size from HS2.out.size)
  clear ho3 s3
  go_wp2
  go_ret
  refine ⟨v3, rfl, ?_, HS3.out⟩
  have h := HO3.out.base (fun k hk => Nat.le_trans HSZ.out (HO3.out.lt k hk).1)
  exact h

end Go.Proofs.YtlmaooeeklhelaaGreatDoor.Tg

/-
  The document's toggle (drydockref04): Tell.
-/
namespace Go.Proofs.YtlmaooeeklhelaaGreatDoor.Tg
open Go.RowKit Pk
set_option maxRecDepth 100000

theorem rruint_at (b : List UInt8) (err : Nat) (most : Nat) (m : Int) (hm2 : m = (most : Int)) (w : World) (x : Value) (hx : Slc w x b) (hm : most ≤ M64) : Calls Tryz.prog 79 #[rdV x err, .int .u64 m] w fun e w' => RdRet u64V w' x (takeB (numB most) 0 ⟨b, err⟩) e ∧ Stay (fun _ => False) w w' := by
  subst hm2
  exact rruint_any b err most w x hx hm

/-- The document's reader as a variable. -/
def RBox (w : World) (g : Nat) (x : Value) (e : Nat) : Prop := w.heap[g]? = some (.cells #[x, .int .i64 (e : Int)] 149 (0, 0))
theorem RBox.stay {X : Nat → Prop} {w w' : World} {g : Nat} {x : Value} {e : Nat} (h : RBox w g x e) (hs : Stay X w w') (hx : ¬ X g) : RBox w' g x e := (hs.block g (lt_of_block h) hx).trans h
theorem run_load_rd {w : World} {g : Nat} {x : Value} {e : Nat} (h : RBox w g x e) : (loadVar 149 ⟨g, 0, none⟩).run Tryz.prog w = .ok (rdV x e) w :=
  run_loadVar_mid (P := Tryz.prog) w g 0 149 149 #[x, .int .i64 (e : Int)] #[x, .int .i64 (e : Int)] (0, 0) _ h Tryz.underlying149 rfl (by kernel_rfl) (fun j _ => by rw [Nat.zero_add])
theorem load_rd {ops : Array Oper} {rest : List Oper} {o : Oper} {a : Act} {w : World} {Q : Exit → Act → World → Prop} (hgd : o.guard = none) (x : Operand) (ho : o.op = .load 149 x)
    (g : Nat) (hx : a.eval x = .pointer (some ⟨g, 0, none⟩)) (v : Value) (e : Nat) (h : RBox w g v e)
    (hn : wpList Tryz.prog ops Q rest (a.put o.dst (rdV v e)) w) : wpList Tryz.prog ops Q (o :: rest) a w :=
  wpList_plain hgd fun _ hK => by
    unfold Oper.wp execOp
    simp only [ho, hx, Instr.loadAt, Instr.sureAddr, Sem.run_bind, Sem.run_pure, Result.andThen_ok, run_load_rd h]
    exact hK _ _ hn
theorem store_rd {ops : Array Oper} {rest : List Oper} {o : Oper} {a : Act} {w : World} {Q : Exit → Act → World → Prop} (hgd : o.guard = none) (x y : Operand) (ho : o.op = .store 149 x y)
    (g : Nat) (hx : a.eval x = .pointer (some ⟨g, 0, none⟩)) (v u : Value) (e d : Nat) (hy : a.eval y = rdV v e) (h1 : v.oneCell' = true) (h : RBox w g u d)
    (hn : ∀ w', RBox w' g v e → Stay (fun k => k = g) w w' → wpList Tryz.prog ops Q rest (a.put o.dst undef) w') : wpList Tryz.prog ops Q (o :: rest) a w :=
  wpList_store_mid hgd 149 x y ho g 0 hx 149 [u, .int .i64 (d : Int)] [v, .int .i64 (e : Int)] hy h (by kernel_rfl) (Nat.le_refl _)
    (by intro z hz; simp at hz; rcases hz with rfl | rfl <;> first | rfl | exact h1) (fun w' h2 h3 => hn w' h2 h3)
theorem slc_one {w : World} {x : Value} {b : List UInt8} (h : Slc w x b) : x.oneCell' = true := by
  obtain ⟨a0, c, rfl, _⟩ := h
  rfl

theorem slc_stayB {X : Nat → Prop} {w w' : World} {x : Value} {l : List UInt8} (h : Slc w x l) (hs : Stay X w w') (hx : ∀ k, x.ownBlock = some k → ¬ X k) : Slc w' x l := by
  obtain ⟨a0, c, rfl, hr, hn⟩ := h
  refine ⟨a0, c, rfl, fun h0 => ?_, hn⟩
  obtain ⟨ad, rfl, hc⟩ := hr h0
  refine ⟨ad, rfl, fun j v hv => hs.cell (hc j v hv) ?_⟩
  have hb : (ad.add j).block = ad.block := by unfold Addr.add; split <;> rfl
  rw [hb]
  exact hx ad.block rfl

/-- Noughts alone. -/
def nilB (l : List UInt8) : Bool := l.all (fun c => c == 0)
theorem nilB_snoc (l : List UInt8) (c : UInt8) : nilB (l ++ [c]) = (nilB l && c == 0) := by simp [nilB]
theorem nilB_iff {l : List UInt8} (h : l.length = 64) : nilB l = true ↔ l = zsec := by
  unfold nilB
  rw [List.all_eq_true]
  constructor
  · intro hq
    unfold zsec
    rw [← h]
    exact List.eq_replicate_iff.2 ⟨rfl, fun c hc => by simpa using hq c hc⟩
  · rintro rfl c hc
    have := (List.mem_replicate.1 hc).2
    simp [this]

set_option maxHeartbeats 2000000 in
theorem rtell_any (w : World) (x : Value) (l : List UInt8) (room : Nat) (hx : Slc w x l) (hl : l.length = 64) (hr : (room : Int) ≤ 9223372036854775807) :
    Calls Tryz.prog 60 #[x, .int .i64 (room : Int)] w fun e w' => e = .returned (.tuple #[.int .u64 ((tellD l room).1.1 : Nat), .bool (tellD l room).1.2.1, .int .i64 ((tellD l room).1.2.2 : Nat), .int .i64 ((tellD l room).2 : Nat)]) ∧ Stay (fun _ => False) w w' := by
  have HX := Lib.hid hx
  obtain ⟨a0, c0, rfl, hrd, _, hc0, hcm⟩ := id hx
  rw [hl]
  have HRD := Lib.hid hrd
  have HL := Lib.hid hl
  clear hx hrd hc0 hcm hl
  go_enter Tryz.func60, Tryz.ntmps60
  go_wp2
  go_loopw [8, 9] (fun b i wr => ∃ k : Nat, k ≤ 64 ∧ i = .int .i64 (k : Int) ∧ b = .bool (nilB (l.take k)) ∧ Stay (fun _ => False) w wr) (fun _ i _ => 64 - (intOf i).toNat)
  case atStart => exact ⟨0, by omega, rfl, rfl, Stay.refl _ _⟩
  case round =>
    obtain ⟨k, hk, rfl, rfl, hst⟩ := hrel
    have HST := Lib.hid hst
    by_cases hlt : k < 64
    · obtain ⟨c, hc⟩ : ∃ c, l[k]? = some c := ⟨_, List.getElem?_eq_getElem (by rw [HL.out]; exact hlt)⟩
      obtain ⟨ad, rfl, hcell⟩ := HRD.out (by rw [HL.out]; omega)
      have hcj := hst.cell (hcell k (byteV c) (by simp [cellsB, hc])) (fun y => y)
      unfold byteV at hcj
      have HS := Lib.hid (show nilB (l.take (k + 1)) = (nilB (l.take k) && c == 0) by rw [List.take_add_one, hc]; exact nilB_snoc _ _)
      have hcz : ((c.toNat : Int) == 0) = (c == 0) := by
        by_cases e : c = 0
        · subst e; rfl
        · have e2 : ¬ (c.toNat : Int) = 0 := fun q => e (UInt8.toNat_inj.1 (by simpa using q))
          rw [beq_eq_false_iff_ne.2 e, beq_eq_false_iff_ne.2 e2]
      have q0 : (k : Int) < 64 := by omega
      have HK := Lib.hid hlt
      clear hc hcell hlt hst
      generalize nilB (l.take k) = v at *
      cases v
      all_goals
        have HS := HS
        go_wp2
        have hk2 := HK.out
        first
          | exact ⟨⟨k + 1, by omega, by go_num, by rw [HS.out]; rfl, HST.out⟩, by simp [intOf]; omega⟩
          | (go_round
             case rel => exact ⟨k + 1, by omega, by go_num, by rw [HS.out]; simp, HST.out⟩
             case measure => simp [intOf]; omega)
    · obtain rfl : k = 64 := by omega
      rw [List.take_of_length_le (by rw [HL.out]; omega)]
      clear hst
      by_cases hz : l = zsec
      · have e1 : nilB l = true := (nilB_iff HL.out).2 hz
        have HE := Lib.hid (show tellD l room = ((0, false, 0), 8) from if_pos hz)
        rw [e1]
        clear hz e1
        go_wp2
        refine bodyPost_ret (v := .tuple #[.int .u64 0, .bool false, .int .i64 0, .int .i64 8]) (by simp [results, Tryz.results60]) rfl ⟨?_, HST.out⟩
        rw [HE.out]
        rfl
      · have e1 : nilB l = false := by
          cases h : nilB l
          · rfl
          · exact absurd ((nilB_iff HL.out).1 h) hz
        have HX2 := Lib.hid (HX.out.stay0 HST.out)
        have h1 : HX2 = HX2 := rfl
        rw [e1]
        obtain ⟨s1, hs1⟩ : ∃ s, takeB (numB topN) 0 ⟨l, 0⟩ = s := ⟨_, rfl⟩
        obtain ⟨s2, hs2⟩ : ∃ s, takeB truB false s1.2 = s := ⟨_, rfl⟩
        obtain ⟨s3, hs3⟩ : ∃ s, takeB (numB room) 0 s2.2 = s := ⟨_, rfl⟩
        have hn1 : s1.1 ≤ topN := hs1 ▸ take_num_le _ _
        have hn3 : s3.1 ≤ room := hs3 ▸ take_num_le _ _
        have HE := Lib.hid (show tellD l room = if s3.2.err ≠ 0 ∨ s1.1 = 0 then ((0, false, 0), 3) else ((s1.1, s2.1, s3.1), 0) by
          unfold tellD
          rw [if_neg hz, hs1, hs2, hs3])
        have H1 := Lib.hid hs1
        have H2 := Lib.hid hs2
        have H3 := Lib.hid hs3
        have N1 := Lib.hid hn1
        have N3 := Lib.hid hn3
        clear hz e1 hs1 hs2 hs3 hn1 hn3 h1
        go_wp2_with fail
        rw [← HL.out]
        refine (rruint_at l 0 topN _ (by rfl) wr _ HX2.out (by decide)).mono ?_
        rintro e w2 ⟨⟨x1, rfl, hx1⟩, t1⟩
        rw [H1.out] at hx1 ⊢
        obtain ⟨hx1, own1⟩ := hx1
        have hown0 : ∀ k, (Value.slice a0 l.length c0).ownBlock = some k → k < w2.heap.size := by
          intro k hk
          obtain ⟨ad, ead, hcell⟩ := HRD.out (by rw [HL.out]; omega)
          subst ead
          cases hk
          obtain ⟨c, hc⟩ : ∃ c, l[0]? = some c := ⟨_, List.getElem?_eq_getElem (by rw [HL.out]; omega)⟩
          have h0 := World.block_lt_of_cell? w _ (hcell 0 (byteV c) (by simp [cellsB, hc]))
          have hb : (ad.add 0).block = ad.block := by unfold Addr.add; split <;> rfl
          rw [hb] at h0
          exact Nat.lt_of_lt_of_le h0 (HST.out.trans t1).size
        have OW1 := Lib.hid (fun k (e : x1.ownBlock = some k) => hown0 k (own1 k e))
        clear hown0 own1
        have X1 := Lib.hid hx1
        have T1 := Lib.hid (HST.out.trans t1)
        clear hx1 t1
        unfold u64V
        have RB := Lib.hid (show RBox (w2.alloc (.cells #[.slice none 0 0, .int .i64 0] 149)) w2.heap.size (.slice none 0 0) 0 from heap_alloc_new w2 _)
        go_wp2_with (first
          | (refine store_rd rfl (.tmp 10) (.tmp 33) rfl w2.heap.size rfl x1 _ s1.2.err _ rfl (slc_one X1.out) RB.out ?_
             intro w3 hb3 t3
             have RB3 := Lib.hid hb3
             have T3 := Lib.hid (T1.out.trans (stay_seal (X := fun k => k = w2.heap.size) ((Stay.alloc _ _).trans t3) (fun k e => Nat.le_of_eq e.symm)))
             have X3 := Lib.hid (X1.out.stay0 (stay_seal (X := fun k => k = w2.heap.size) ((Stay.alloc _ _).trans t3) (fun k e => Nat.le_of_eq e.symm)))
             have SZ3 := Lib.hid (show w.heap.size ≤ w2.heap.size from T1.out.size)
             clear hb3 t3)
          | (refine load_rd rfl (.tmp 10) rfl w2.heap.size rfl x1 s1.2.err RB3.out ?_))
        refine (rrbool_any s1.2.b s1.2.err w3 x1 X3.out).mono ?_
        rintro e w4 ⟨⟨x2, rfl, hx2⟩, t4⟩
        rw [show (⟨s1.2.b, s1.2.err⟩ : RS) = s1.2 from rfl, H2.out] at hx2 ⊢
        obtain ⟨hx2, own2⟩ := hx2
        have OW2 := Lib.hid (fun k (e : x2.ownBlock = some k) => OW1.out k (own2 k e))
        clear own2
        have X2 := Lib.hid hx2
        have RB4 := Lib.hid (RB3.out.stay t4 (fun y => y))
        have T4 := Lib.hid (T3.out.trans t4)
        clear hx2 t4
        unfold boolV
        go_wp2_with (first
          | (refine store_rd rfl (.tmp 10) (.tmp 38) rfl w2.heap.size rfl x2 _ s2.2.err _ rfl (slc_one X2.out) RB4.out ?_
             intro w5 hb5 t5
             have RB5 := Lib.hid hb5
             have T5 := Lib.hid (stay_seal (X := fun k => k = w2.heap.size) ((T4.out.mono (fun _ y => y.elim)).trans t5) (fun k e => by have := SZ3.out; omega))
             have LT5 := Lib.hid (lt_of_block RB4.out)
             have X5 := Lib.hid (slc_stayB X2.out t5 (fun k e (y : k = w2.heap.size) => by have := OW2.out k e; omega))
             clear hb5 t5)
          | (refine load_rd rfl (.tmp 10) rfl w2.heap.size rfl x2 s2.2.err RB5.out ?_))
        refine (rruint_any s2.2.b s2.2.err room w5 x2 X5.out (by unfold M64; omega)).mono ?_
        rintro e w6 ⟨⟨x3, rfl, hx3⟩, t6⟩
        rw [show (⟨s2.2.b, s2.2.err⟩ : RS) = s2.2 from rfl, H3.out] at hx3 ⊢
        obtain ⟨hx3, _⟩ := hx3
        have X3' := Lib.hid hx3
        have RB6 := Lib.hid (RB5.out.stay t6 (fun y => y))
        have T6 := Lib.hid (T5.out.trans t6)
        clear hx3 t6
        unfold u64V
        have hcs : (s3.2.err ≠ 0 ∧ ((s3.2.err : Int) == 0) = false) ∨ (s3.2.err = 0 ∧ s1.1 = 0) ∨ (s3.2.err = 0 ∧ s1.1 ≠ 0 ∧ ((s1.1 : Int) == 0) = false) := by
          by_cases h1 : s3.2.err = 0
          · by_cases h2 : s1.1 = 0
            · exact .inr (.inl ⟨h1, h2⟩)
            · exact .inr (.inr ⟨h1, h2, beq_eq_false_iff_ne.2 (by omega)⟩)
          · exact .inl ⟨h1, beq_eq_false_iff_ne.2 (by omega)⟩
        have HCS := Lib.hid hcs
        clear hcs
        go_wp2_with (
          refine store_rd rfl (.tmp 10) (.tmp 45) rfl w2.heap.size rfl x3 _ s3.2.err _ rfl (slc_one X3'.out) RB6.out ?_
          intro w7 hb7 t7
          have k1 : w7.cell? ⟨w2.heap.size, 1, none⟩ = some (.int .i64 (s3.2.err : Int)) := cell_of_row w7 _ 1 _ _ _ hb7
          have T7 := Lib.hid (stay_seal (X := fun k => k = w2.heap.size) ((T6.out.mono (fun _ y => y.elim)).trans t7) (fun k e => by have := SZ3.out; omega))
          clear hb7 t7)
        all_goals
          have hw : wrap64 (s3.1 : Int) = (s3.1 : Int) := by have := N3.out; unfold wrap64; omega
          rcases HCS.out with ⟨h1, -⟩ | ⟨h1, h2⟩ | ⟨h1, h2, -⟩
          all_goals first
            | (exfalso; omega)
            | (exfalso; rename_i q; have := beq_eq_false_iff_ne.1 q; omega)
            | (exfalso; rename_i q; have := beq_iff_eq.1 q; omega)
            | (refine bodyPost_ret (v := .tuple #[.int .u64 0, .bool false, .int .i64 0, .int .i64 3]) (by simp [results, Tryz.results60]) rfl ⟨?_, T7.out⟩
               rw [HE.out, if_pos (by omega)]
               rfl)
            | (refine bodyPost_ret (v := .tuple #[.int .u64 (s1.1 : Nat), .bool s2.1, .int .i64 (wrap64 (s3.1 : Nat)), .int .i64 0]) (by simp [results, Tryz.results60]) rfl ⟨?_, T7.out⟩
               rw [HE.out, if_neg (by omega), hw]
               rfl)

end Go.Proofs.YtlmaooeeklhelaaGreatDoor.Tg

/-
  The document's toggle (drydockref04): look.
-/
namespace Go.Proofs.YtlmaooeeklhelaaGreatDoor.Tg
open Go.RowKit Pk
set_option maxRecDepth 100000

theorem conv_bytes (w : World) (l : List UInt8) (hl : l.length ≤ 4611686018427387904) : ∃ v w', (convert 9 37 (strV l)).run Tryz.prog w = .ok v w' ∧ (Slc w' v l ∧ Stay (fun _ => False) w w') := by
  have h := Lib.run_convert_string_bytes (P := Tryz.prog) w 9 37 5 ⟨l.toArray⟩ Tryz.underlying9 Tryz.underlying37 Tryz.underlying5
  refine ⟨_, _, h, ⟨some ⟨w.heap.size, 0, none⟩, _, rfl, fun _ => ⟨_, rfl, fun j v hv => ?_⟩, (fun e => by cases e), ?_, ?_⟩, ⟨rfl, rfl, rfl, ?_, fun k hk _ => Lib.bytesWorld_at_old _ _ _ _ hk⟩⟩
  · rw [add_at, Nat.zero_add]
    have hj : j < l.length := by
      have := (List.getElem?_eq_some_iff.1 hv).1
      rwa [length_cellsB] at this
    have hcell := Lib.bytesWorld_cell w 5 ⟨l.toArray⟩ j hj
    rw [hcell, ← hv]
    simp [cellsB, byteV, List.getElem?_eq_getElem hj]
  · have h1 := grownCap_ge w l.length 0 5
    exact h1
  · have h2 := grownCap_le_maxLen w l.length 0 5 (by unfold maxLen; omega)
    unfold maxLen at h2
    show grownCap w l.length 0 5 ≤ _
    omega
  · rw [Lib.bytesWorld_size]; omega

section
variable {P : Program}
theorem wpList_convert_ex {ops : Array Oper} {rest : List Oper} {o : Oper} {a : Act} {w : World} {Q : Exit → Act → World → Prop} (hgd : o.guard = none) (src dst : TypeId) (x : Operand) (ho : o.op = .convert src dst x)
    (vx : Value) (hx : a.eval x = vx) (R : Value → World → Prop) (hrun : ∃ v' w', (convert src dst vx).run P w = .ok v' w' ∧ R v' w')
    (h : ∀ v' w', R v' w' → wpList P ops Q rest (a.put o.dst v') w') : wpList P ops Q (o :: rest) a w :=
  wpList_plain hgd fun _ hK => by
    obtain ⟨v', w', h1, h2⟩ := hrun
    unfold Oper.wp execOp
    simp only [ho, hx, Sem.run_bind, Sem.run_pure, Result.andThen_ok, h1]
    exact hK _ _ (h v' w' h2)
end

/-- What the document's device reads, by the plain one. -/
theorem sim_read {d : DS} {r : RDev} (h : Sim d r) (j : Nat) (hj : j < d.n) : readR r (j : Int) = readD d j := by
  unfold readR readD down
  rw [h.cr, h.lo]
  by_cases hd : (d.cr || d.lo) = true
  · rw [if_pos hd, if_pos hd]
  · rw [if_neg hd, if_neg hd, if_neg (by have := h.n1; omega), Int.toNat_natCast, List.getD_eq_getElem?_getD]
    have hl : d.lo = false := by cases hl : d.lo; rfl; rw [hl, Bool.or_true] at hd; exact absurd rfl hd
    rw [h.now hl j hj]
    rfl

/-- What an area holds, as the variable's two cells. -/
def ABox (w : World) (g : Nat) (f s : Int) : Prop := w.heap[g]? = some (.cells #[.int .i64 f, .int .i64 s] 23 (0, 0))
theorem ABox.stay {X : Nat → Prop} {w w' : World} {g : Nat} {f s : Int} (h : ABox w g f s) (hs : Stay X w w') (hx : ¬ X g) : ABox w' g f s := (hs.block g (lt_of_block h) hx).trans h
theorem ABox.c0 {w : World} {g : Nat} {f s : Int} (h : ABox w g f s) : w.cell? ⟨g, 0, none⟩ = some (.int .i64 f) := cell_of_row w g 0 _ _ _ h
theorem ABox.c1 {w : World} {g : Nat} {f s : Int} (h : ABox w g f s) : w.cell? ⟨g, 1, none⟩ = some (.int .i64 s) := cell_of_row w g 1 _ _ _ h
theorem run_load_area {w : World} {g : Nat} {f s : Int} (h : ABox w g f s) : (loadVar 23 ⟨g, 0, none⟩).run Tryz.prog w = .ok (areaV f s) w :=
  run_loadVar_mid (P := Tryz.prog) w g 0 23 23 #[.int .i64 f, .int .i64 s] #[.int .i64 f, .int .i64 s] (0, 0) _ h Tryz.underlying23 rfl (by kernel_rfl) (fun j _ => by rw [Nat.zero_add])
theorem load_area {ops : Array Oper} {rest : List Oper} {o : Oper} {a : Act} {w : World} {Q : Exit → Act → World → Prop} (hgd : o.guard = none) (x : Operand) (ho : o.op = .load 23 x)
    (g : Nat) (hx : a.eval x = .pointer (some ⟨g, 0, none⟩)) (f s : Int) (h : ABox w g f s)
    (hn : wpList Tryz.prog ops Q rest (a.put o.dst (areaV f s)) w) : wpList Tryz.prog ops Q (o :: rest) a w :=
  wpList_plain hgd fun _ hK => by
    unfold Oper.wp execOp
    simp only [ho, hx, Instr.loadAt, Instr.sureAddr, Sem.run_bind, Sem.run_pure, Result.andThen_ok, run_load_area h]
    exact hK _ _ hn

/-- A device and an area as variables. -/
theorem dev_area (w : World) (v1 v2 v3 : Value) (r : RDev) (f s : Int) : ∃ w1, ((w.alloc (.cells #[v1, v2, v3, .int .i64 r.wr, .bool r.ar, .int .i64 r.left, .bool r.cr, .bool r.lo] 33)).alloc (.cells #[.int .i64 f, .int .i64 s] 23)) = w1 ∧
    Hid (Stay (fun _ => False) w w1) ∧ Hid (w1.heap.size = w.heap.size + 2) ∧ Hid (BoxAt w1 w.heap.size v1 v2 v3 r) ∧ Hid (ABox w1 (w.heap.size + 1) f s) := by
  have b1 := heap_alloc_new w (.cells #[v1, v2, v3, .int .i64 r.wr, .bool r.ar, .int .i64 r.left, .bool r.cr, .bool r.lo] 33)
  have b2 := heap_alloc_new (w.alloc (.cells #[v1, v2, v3, .int .i64 r.wr, .bool r.ar, .int .i64 r.left, .bool r.cr, .bool r.lo] 33)) (.cells #[.int .i64 f, .int .i64 s] 23)
  rw [show (w.alloc (.cells #[v1, v2, v3, .int .i64 r.wr, .bool r.ar, .int .i64 r.left, .bool r.cr, .bool r.lo] 33)).heap.size = w.heap.size + 1 by simp] at b2
  exact ⟨_, rfl, Lib.hid ((Stay.alloc _ _).trans (Stay.alloc _ _)), Lib.hid (by simp), Lib.hid ((Below.heap_alloc _ _ w.heap.size (by simp)).trans b1), Lib.hid b2⟩

/-- What look tells. -/
def askV (t : (Nat × Bool × Nat) × Nat) : Value := .tuple #[.int .u64 (t.1.1 : Nat), .bool t.1.2.1, .int .i64 (t.1.2.2 : Nat), .int .i64 (t.2 : Nat)]

set_option maxHeartbeats 2000000 in
theorem rlook_any (w : World) (v1 v2 v3 : Value) (r : RDev) (d : DS) (b : Int) (f s : Int) (h : Dv w v1 v2 v3 r) (hr : ROk d.n b r) (hsim : Sim d r) (hw : ∀ j, (d.cur j).length = 64) (h0 : 0 < d.n) (hn : d.n ≤ 16384) (hf : I64 f) (hs : I64 s) :
    Calls Tryz.prog 39 #[devV v1 v2 v3 r, areaV f s] w fun e w' => e = .returned (askV (askD d f s)) ∧ Stay (fun _ => False) w w' := by
  obtain ⟨w1, hw1, HST, HSZ, HB, HA⟩ := dev_area w v1 v2 v3 r f s
  have HD := Lib.hid (h.stay0 HST.out)
  have HRO := Lib.hid hr
  have HSIM := Lib.hid hsim
  have HW := Lib.hid hw
  have k0 := HB.out.c 0
  have ka0 := HA.out.c0
  have ka1 := HA.out.c1
  obtain ⟨f0, f1⟩ := hf
  obtain ⟨s0, s1⟩ := hs
  obtain ⟨a1, c1, rfl, _⟩ := id h.s1
  rw [hr.n1] at hw1 HB HD k0 ⊢
  clear h hr hsim hw
  by_cases hi : inB f s d.n = false
  · have HE := Lib.hid (show askD d f s = ((0, false, 0), 1) from if_pos hi)
    rw [HE.out]
    have hi2 : ¬ (0 ≤ f ∧ 3 ≤ s ∧ f ≤ d.n - s) := by
      unfold inB at hi
      exact of_decide_eq_false hi
    have hcs : f < 0 ∨ (¬ f < 0 ∧ s < 3) ∨ (¬ f < 0 ∧ ¬ s < 3 ∧ (d.n : Int) ≤ f) ∨ (¬ f < 0 ∧ ¬ s < 3 ∧ ¬ (d.n : Int) ≤ f ∧ (d.n : Int) - f < s) := by omega
    clear hi hi2
    rcases hcs with q1 | ⟨q1, q2⟩ | ⟨q1, q2, q3⟩ | ⟨q1, q2, q3, q4⟩
    all_goals
      try have wr : IntKind.i64.wrap ((d.n : Int) - f) = (d.n : Int) - f := IntWalk.i64_in _ (by omega)
      unfold devV areaV
      go_enter Tryz.func39, Tryz.ntmps39
      go_wp2
      refine bodyPost_ret (v := .tuple #[.int .u64 0, .bool false, .int .i64 0, .int .i64 1]) (by simp [results, Tryz.results39]) rfl ⟨rfl, HST.out⟩
  · obtain ⟨q1, q2, q3⟩ := inB_spec hi
    obtain ⟨j, rfl⟩ : ∃ j : Nat, f = (j : Int) := ⟨f.toNat, by omega⟩
    have HJ := Lib.hid (show j < d.n by omega)
    have p1 : ¬ (j : Int) < 0 := by omega
    have p2 : ¬ s < 3 := by omega
    have p3 : ¬ (d.n : Int) ≤ (j : Int) := by omega
    have p4 : ¬ (d.n : Int) - (j : Int) < s := by omega
    have wr : IntKind.i64.wrap ((d.n : Int) - (j : Int)) = (d.n : Int) - (j : Int) := IntWalk.i64_in _ (by omega)
    have hrd := fun W (hW : Stay (fun _ => False) w1 W) => rread_any W _ r (j : Int) ((HD.out.stay0 hW).ref) ⟨by omega, by omega⟩
    rw [sim_read HSIM.out j HJ.out] at hrd
    by_cases hdn : down d = true
    · have HE := Lib.hid (show askD d (j : Int) s = ((0, false, 0), 13) by unfold askD; rw [if_neg hi, if_pos hdn])
      have e2 : readD d j = ([], 13) := if_pos hdn
      rw [HE.out]
      simp only [e2] at hrd
      have HRD := Lib.hid hrd
      clear hrd hi hdn e2
      unfold devV areaV
      go_enter Tryz.func39, Tryz.ntmps39
      go_wp2_with (refine load_box rfl (.tmp 2) rfl w.heap.size rfl _ _ _ _ HB.out ?_)
      refine (HRD.out w1 (Stay.refl _ _)).mono ?_
      rintro e w2 ⟨rfl, t2⟩
      have T2 := Lib.hid t2
      clear t2
      unfold strV
      go_wp2
      refine bodyPost_ret (v := .tuple #[.int .u64 0, .bool false, .int .i64 0, .int .i64 13]) (by simp [results, Tryz.results39]) rfl ⟨rfl, HST.out.trans T2.out⟩
    · have HE := Lib.hid (show askD d (j : Int) s = tellD (d.cur j) (roomI s).toNat by unfold askD; rw [if_neg hi, if_neg hdn, Int.toNat_natCast])
      have e2 : readD d j = (d.cur j, 0) := if_neg hdn
      rw [HE.out]
      simp only [e2] at hrd
      have HRD := Lib.hid hrd
      obtain ⟨R, hR⟩ : ∃ R : Nat, roomI s = (R : Int) := ⟨(roomI s).toNat, by unfold roomI; split <;> omega⟩
      have hRb : (R : Int) ≤ 9223372036854775807 := by
        rw [← hR]
        unfold roomI
        split <;> omega
      have HRM := Lib.hid (fun W => rroom_any (j : Int) s W)
      rw [hR] at HRM ⊢
      rw [Int.toNat_natCast]
      have HRB := Lib.hid hRb
      clear hrd hi hdn e2 hR hRb
      unfold devV areaV
      go_enter Tryz.func39, Tryz.ntmps39
      go_wp2_with (refine load_box rfl (.tmp 2) rfl w.heap.size rfl _ _ _ _ HB.out ?_)
      refine (HRD.out w1 (Stay.refl _ _)).mono ?_
      rintro e w2 ⟨rfl, t2⟩
      have T2 := Lib.hid t2
      have HA2 := Lib.hid (HA.out.stay t2 (fun y => y))
      clear t2 k0 ka0 ka1
      unfold strV
      go_wp2_with (first
        | (refine wpList_convert_ex rfl 9 37 (.tmp 47) rfl (strV (d.cur j)) rfl _ (conv_bytes w2 (d.cur j) (by rw [HW.out]; omega)) ?_
           rintro v3 w3 ⟨hx3, t3⟩
           have HX3 := Lib.hid hx3
           have T3 := Lib.hid t3
           have HA3 := Lib.hid (HA2.out.stay t3 (fun y => y))
           clear hx3 t3)
        | (refine load_area rfl (.tmp 3) rfl (w.heap.size + 1) rfl (j : Int) s HA3.out ?_))
      refine (HRM.out w3).mono ?_
      rintro e w4 ⟨rfl, t4⟩
      have HX4 := Lib.hid (HX3.out.stay0 t4)
      have T4 := Lib.hid t4
      clear t4
      go_wp2_with fail
      refine (rtell_any w4 v3 (d.cur j) R HX4.out (HW.out j) HRB.out).mono ?_
      rintro e w5 ⟨rfl, t5⟩
      have hfin := (((HST.out.trans T2.out).trans T3.out).trans T4.out).trans t5
      obtain ⟨q, hq⟩ : ∃ q, tellD (d.cur j) R = q := ⟨_, rfl⟩
      rw [hq]
      have HQ := Lib.hid hq
      clear hq
      go_wp2
      refine bodyPost_ret (v := .tuple #[.int .u64 (q.1.1 : Nat), .bool q.1.2.1, .int .i64 (q.1.2.2 : Nat), .int .i64 (q.2 : Nat)]) (by simp [results, Tryz.results39]) rfl ⟨by rw [HQ.out]; rfl, hfin⟩
end Go.Proofs.YtlmaooeeklhelaaGreatDoor.Tg

/-
  The document's toggle (drydockref04): Load.
-/
namespace Go.Proofs.YtlmaooeeklhelaaGreatDoor.Tg
open Go.RowKit Pk
set_option maxRecDepth 100000

theorem str_append (a b : List UInt8) : (ByteArray.mk a.toArray) ++ (ByteArray.mk b.toArray) = ByteArray.mk (a ++ b).toArray := by
  apply ByteArray.ext
  simp
theorem str_take (l : List UInt8) (n : Nat) : (ByteArray.mk l.toArray).extract 0 n = ByteArray.mk (l.take n).toArray := by
  apply ByteArray.ext
  simp
/-- A step that loads, of whatever type. -/
theorem quiet_loadX {P : Program} {D : World → Prop} {ops : Array Oper} {rest : List Oper} {o : Oper} {a : Act} {Q : Act → Prop} (hgd : Region.wanted o (yielded ops a.tmps) = true) (ty : TypeId) (x : Operand) (ho : o.op = .load ty x) (ad : Addr) (hx : a.eval x = .pointer (some ad)) (v : Value)
    (hl : ∀ i : InC D, (loadVar ty ad).run P i.w = .ok v i.w) (h : wpQuiet P ops (fun w' => ∃ i : InC D, w' = i.w) Q rest (a.put o.dst v)) : wpQuiet P ops (fun w' => ∃ i : InC D, w' = i.w) Q (o :: rest) a := by
  refine wpQuiet_step fun K hK => ?_
  rw [if_pos hgd]
  refine ⟨v, fun w' hw => ?_, hK _ h⟩
  obtain ⟨i, rfl⟩ := hw
  unfold Oper.quietAt execOp
  simp only [ho, hx, Instr.loadAt, Instr.sureAddr, Sem.run_bind, Sem.run_pure, Result.andThen_ok, hl i]
  exact ⟨rfl, rfl⟩

/-- What Load tells. -/
def loadV (t : List UInt8 × Nat × Nat) : Value := .tuple #[strV t.1, .int .u64 (t.2.1 : Nat), .int .i64 (t.2.2 : Nat)]

set_option maxHeartbeats 2000000 in
theorem rload_any (w : World) (v1 v2 v3 : Value) (r : RDev) (d : DS) (b : Int) (f s : Int) (h : Dv w v1 v2 v3 r) (hr : ROk d.n b r) (hsim : Sim d r) (hw : ∀ j, (d.cur j).length = 64) (h0 : 0 < d.n) (hn : d.n ≤ 16384) (hf : I64 f) (hs : I64 s) :
    Calls Tryz.prog 20 #[devV v1 v2 v3 r, areaV f s] w fun e w' => e = .returned (loadV (loadD d f s)) ∧ Stay (fun _ => False) w w' := by
  obtain ⟨w1, hw1, HST, HSZ, HB, HA⟩ := dev_area w v1 v2 v3 r f s
  have HD := Lib.hid (h.stay0 HST.out)
  have HRO := Lib.hid hr
  have HSIM := Lib.hid hsim
  have HW := Lib.hid hw
  have hlook := fun W (hW : Stay (fun _ => False) w1 W) => rlook_any W v1 v2 v3 r d b f s (HD.out.stay0 hW) hr hsim hw h0 hn hf hs
  have hok := @ask_ok d f s
  clear h hr hsim hw
  by_cases hc : (askD d f s).2 = 0
  · have HE := Lib.hid (show loadD d f s = (bytesB d (placeI f s (askD d f s).1.2.1).toNat (askD d f s).1.2.2, (askD d f s).1.1, 0) from if_pos hc)
    generalize askD d f s = T at *
    obtain ⟨⟨tn, tb, tm⟩, tc⟩ := T
    dsimp only at hc HE hlook
    subst hc
    obtain ⟨hib, hup, _, htn, htm⟩ := hok rfl
    obtain ⟨f0, s3, fn⟩ := inB_spec (by rw [hib]; simp : ¬ inB f s d.n = false)
    obtain ⟨hp1, hp2, hp3, hp4⟩ := place_in (b := tb) f0 s3 fn hn htm
    obtain ⟨pl, hpl⟩ : ∃ pl : Nat, placeI f s tb = (pl : Int) := ⟨(placeI f s tb).toNat, by omega⟩
    have hplace := fun W => rplace_any f s tb W f0 (by omega) s3 (by omega)
    rw [hpl] at hplace HE
    have e5 : (placeI f s tb).toNat = pl := by omega
    rw [e5] at hp1
    rw [Int.toNat_natCast] at HE
    rw [HE.out]
    have HPL := Lib.hid hplace
    have HLK := Lib.hid hlook
    have HP1 := Lib.hid hp1
    have HUP := Lib.hid hup
    have htm' : (tm : Int) ≤ 1048576 := by omega
    have HPN := Lib.hid (show pl ≤ 16384 by omega)
    clear hplace hlook hok hib hup htm fn hp1 hpl e5 hp2 hp3
    unfold devV areaV
    go_enter Tryz.func20, Tryz.ntmps20
    go_wp2_with (first
      | (refine load_box rfl (.tmp 2) rfl w.heap.size rfl _ _ _ _ HB.out ?_)
      | (refine load_area rfl (.tmp 3) rfl (w.heap.size + 1) rfl f s HA.out ?_))
    clear hw1
    refine (HLK.out w1 (Stay.refl _ _)).mono ?_
    rintro e w2 ⟨rfl, t2⟩
    have T2 := Lib.hid t2
    have HB2 := Lib.hid (HB.out.stay t2 (fun y => y))
    have HA2 := Lib.hid (HA.out.stay t2 (fun y => y))
    have HD2 := Lib.hid (HD.out.stay0 t2)
    clear t2
    unfold askV
    go_wp2_with fail
    go_loopw [11, 12] (fun z i wr => ∃ k : Nat, k ≤ parts tm ∧ i = .int .i64 (k : Int) ∧ z = strV (secsB d pl k) ∧ Stay (fun _ => False) w2 wr) (fun _ i _ => parts tm - (intOf i).toNat)
    case atStart => exact ⟨0, Nat.zero_le _, rfl, rfl, Stay.refl _ _⟩
    case round =>
      obtain ⟨k, hk, rfl, rfl, hst⟩ := hrel
      have HS := Lib.hid hst
      have hlen := length_secsB (d := d) (fun j => HW.out j) pl k
      have hsz : ((ByteArray.mk (secsB d pl k).toArray).size : Int) = 64 * (k : Int) := by
        have : (ByteArray.mk (secsB d pl k).toArray).size = (secsB d pl k).length := rfl
        omega
      have hsz2 : ((secsB d pl k).length : Int) = 64 * (k : Int) := by omega
      clear hst
      by_cases hlt : k < parts tm
      · have q0 : 64 * (k : Int) < (tm : Int) := by unfold parts at hlt; omega
        have HK := Lib.hid hlt
        have HSZ2 := Lib.hid hsz2
        have hkp : parts tm ≤ 16384 := by unfold parts; omega
        have wr1 : IntKind.i64.wrap ((pl : Int) + (k : Int)) = ((pl + k : Nat) : Int) := by rw [IntWalk.i64_in _ (by have := HPN.out; omega)]; omega
        have HRD := Lib.hid (fun W (hW : Stay (fun _ => False) w2 W) => (by
          have := rread_any W _ r ((pl + k : Nat) : Int) ((HD2.out.stay0 hW).ref) ⟨by omega, by have := HPN.out; omega⟩
          rw [sim_read HSIM.out (pl + k) (by have := HP1.out; omega), show readD d (pl + k) = (d.cur (pl + k), 0) from if_neg HUP.out] at this
          exact this : Calls Tryz.prog 23 #[devV v1 v2 v3 r, .int .i64 ((pl + k : Nat) : Int)] W fun e w' => e = .returned (.tuple #[strV (d.cur (pl + k)), .int .i64 ((0 : Nat) : Int)]) ∧ Stay (fun _ => False) W w'))
        have HAP := Lib.hid (show (ByteArray.mk (secsB d pl k).toArray) ++ (ByteArray.mk (d.cur (pl + k)).toArray) = ByteArray.mk (secsB d pl (k + 1)).toArray from str_append _ _)
        have HZ1 := Lib.hid (show (secsB d pl k).length ≤ 1048576 by omega)
        have HZ2 := Lib.hid (show (d.cur (pl + k)).length ≤ 64 by rw [HW.out]; exact Nat.le_refl _)
        clear hlt hkp hlen
        unfold strV
        go_wp2_with fail
        obtain ⟨D, hDd⟩ : ∃ D : World → Prop, D = Stay (fun _ => False) wr := ⟨_, rfl⟩
        have HDD := Lib.hid (show ∀ W, D W → Stay (fun _ => False) wr W by intro W h; rw [hDd] at h; exact h)
        have HDm := Lib.hid (show ∀ W, Stay (fun _ => False) wr W → D W by intro W h; rw [hDd]; exact h)
        clear hDd
        have HN0 := Lib.hid (HDm.out wr.drew Stay.drew)
        have k1 := Lib.hid (fun i : InC D => run_load_box (HB2.out.stay (HS.out.trans (HDD.out _ i.h)) (fun y => y)))
        have k2 := Lib.hid (fun i : InC D => run_load_area (HA2.out.stay (HS.out.trans (HDD.out _ i.h)) (fun y => y)))
        have C1 := Lib.hid (show ∀ W, D W → Calls Tryz.prog 41 #[areaV f s, .bool tb] W fun e w' => e = .returned (.int .i64 (pl : Int)) ∧ D w' from fun W hW => (HPL.out W).mono fun e w' ⟨h1, h2⟩ => ⟨h1, HDm.out _ ((HDD.out W hW).trans h2)⟩)
        have C2 := Lib.hid (show ∀ W, D W → Calls Tryz.prog 23 #[devV v1 v2 v3 r, .int .i64 ((pl : Int) + (k : Int))] W fun e w' => e = .returned (.tuple #[.string ⟨(d.cur (pl + k)).toArray⟩, .int .i64 0]) ∧ D w' from fun W hW => by
          rw [← Int.natCast_add]
          exact (HRD.out W (HS.out.trans (HDD.out W hW))).mono fun e w' ⟨h1, h2⟩ => ⟨h1, HDm.out _ ((HDD.out W hW).trans h2)⟩)
        have hne : Nonempty (InC D) := ⟨⟨_, HN0.out⟩⟩
        refine wp_region_class D HN0.out (by kernel_rfl) (by kernel_rfl) ?_
        try go_frame
        repeat (first
          | (refine quiet_loadX (by rfl) 33 (.tmp 2) rfl ⟨w.heap.size, 0, none⟩ rfl (devV v1 v2 v3 r) k1.out ?_; go_frame)
          | (refine quiet_loadX (by rfl) 23 (.tmp 3) rfl ⟨w.heap.size + 1, 0, none⟩ rfl (areaV f s) k2.out ?_; go_frame)
          | (go_big_quiet_step ((first
              | with_reducible exact calls_class C1.out
              | with_reducible exact calls_class C2.out))))
        refine wpQuiet_nil ?_
        rintro W ⟨i, rfl⟩
        have hs9 := HDD.out _ i.h
        clear k1 k2 C1 C2 hne wr1
        generalize i.w = w9 at *
        have HS9 := Lib.hid (HS.out.trans hs9)
        clear hs9 HN0 HDD HDm i D
        have hap := HAP.out
        have z1 : (ByteArray.mk (secsB d pl k).toArray).size ≤ 1048576 := HZ1.out
        have z2 : (ByteArray.mk (d.cur (pl + k)).toArray).size ≤ 64 := HZ2.out
        have z3 : (secsB d pl k).length ≤ 1048576 := HZ1.out
        have z4 : (d.cur (pl + k)).length ≤ 64 := HZ2.out
        go_wp2
        have hk2 := HK.out
        first
          | exact ⟨⟨k + 1, by omega, by go_num, rfl, HS9.out⟩, by simp [intOf]; omega⟩
          | (go_round
             case rel => exact ⟨k + 1, by omega, by go_num, rfl, HS9.out⟩
             case measure => simp [intOf]; omega)
      · obtain rfl : k = parts tm := by omega
        have q0 : ¬ 64 * (parts tm : Int) < (tm : Int) := by unfold parts; omega
        have q1 : (tm : Int) ≤ ((secsB d pl (parts tm)).length : Int) := by rw [hlen]; unfold parts; omega
        have HBY := Lib.hid (show (secsB d pl (parts tm)).take tm = bytesB d pl tm from rfl)
        clear hlt hlen
        unfold strV
        go_wp2
        refine bodyPost_ret (v := .tuple #[.string ((ByteArray.mk (secsB d pl (parts tm)).toArray).extract 0 tm), .int .u64 (tn : Nat), .int .i64 0]) (by simp [results, Tryz.results20]) rfl ⟨?_, (HST.out.trans T2.out).trans HS.out⟩
        rw [str_take, HBY.out]
        rfl
  · have HE := Lib.hid (show loadD d f s = ([], 0, (askD d f s).2) from if_neg hc)
    have hc2 : (((askD d f s).2 : Int) == 0) = false := beq_eq_false_iff_ne.2 (by omega)
    rw [HE.out]
    have HLK := Lib.hid hlook
    clear hlook hok hc
    obtain ⟨q, hq⟩ : ∃ q, askD d f s = q := ⟨_, rfl⟩
    rw [hq] at hc2 HLK ⊢
    clear hq HE
    unfold devV areaV
    go_enter Tryz.func20, Tryz.ntmps20
    go_wp2_with (first
      | (refine load_box rfl (.tmp 2) rfl w.heap.size rfl _ _ _ _ HB.out ?_)
      | (refine load_area rfl (.tmp 3) rfl (w.heap.size + 1) rfl f s HA.out ?_))
    clear hw1
    refine (HLK.out w1 (Stay.refl _ _)).mono ?_
    rintro e w2 ⟨rfl, t2⟩
    have T2 := Lib.hid t2
    clear t2
    unfold askV
    go_wp2
    go_ret3
    exact ⟨rfl, HST.out.trans T2.out⟩
end Go.Proofs.YtlmaooeeklhelaaGreatDoor.Tg

/-
  The document's device and the program's, that are at the same: behind a write, a flush, a start.
-/
namespace Go.Proofs.YtlmaooeeklhelaaGreatDoor.Tg
open Go.RowKit Pk
set_option maxRecDepth 100000

theorem sim_write {d : DS} {r : RDev} (h : Sim d r) (i : Int) (l : List UInt8) : Sim (writeD d i l).1 (writeR r i l).1 ∧ (writeR r i l).2 = (writeD d i l).2 := by
  have hdn : down d = (r.cr || r.lo) := by unfold down; rw [h.cr, h.lo]
  unfold writeD writeR
  by_cases hd : down d = true
  · have e1 : readR r i = ([], 13) := by unfold readR; rw [if_pos (hdn ▸ hd)]
    rw [if_pos hd, e1, if_pos (by decide)]
    exact ⟨h, rfl⟩
  · rw [if_neg hd]
    have hlo : d.lo = false := (up_cr hd).2
    by_cases hb : i < 0 ∨ (d.n : Int) ≤ i
    · have e1 : readR r i = ([], 4) := by unfold readR; rw [if_neg (hdn ▸ hd), if_pos (by rw [h.n1]; exact hb)]
      rw [if_pos hb, e1, if_pos (by decide)]
      exact ⟨h, rfl⟩
    · have e1 : (readR r i).2 = 0 := by unfold readR; rw [if_neg (hdn ▸ hd), if_neg (by rw [h.n1]; exact hb)]
      have hnz : ¬ (readR r i).2 ≠ 0 := by rw [e1]; decide
      rw [if_neg hb, if_neg hnz]
      by_cases hl : 64 < l.length
      · rw [if_pos hl, if_pos hl]
        exact ⟨h, rfl⟩
      · rw [if_neg hl, if_neg hl]
        obtain ⟨k, rfl⟩ : ∃ k : Nat, i = (k : Int) := ⟨i.toNat, by omega⟩
        by_cases ha : d.ar = true
        · rw [if_pos ha]
          have hlf := h.left ha
          have har : r.ar = true := h.ar.trans ha
          by_cases hz : d.left = 0
          · rw [if_pos hz, if_pos ⟨har, hlf.trans hz⟩]
            exact ⟨⟨h.n1, h.n2, h.n3, rfl, h.lo, h.ar, h.left, h.now, h.safe, h.loose, h.z⟩, rfl⟩
          · rw [if_neg hz, if_neg (fun e => hz (hlf ▸ e.2))]
            exact ⟨sim_wrote h hlo k (by omega) l (d.left - 1) (fun _ => by rw [hlf]), rfl⟩
        · rw [if_neg ha, if_neg (fun e => ha (h.ar ▸ e.1))]
          have := sim_wrote h hlo k (by omega) l d.left (fun e => absurd e ha)
          exact ⟨this, rfl⟩
theorem sim_flush {d : DS} {r : RDev} (h : Sim d r) : Sim (flushD d).1 (flushR r).1 ∧ (flushR r).2 = (flushD d).2 := by
  have hdn : down d = (r.cr || r.lo) := by unfold down; rw [h.cr, h.lo]
  unfold flushD flushR
  by_cases hd : down d = true
  · rw [if_pos hd, if_pos (hdn ▸ hd)]
    exact ⟨h, rfl⟩
  · rw [if_neg hd, if_neg (hdn ▸ hd)]
    exact ⟨sim_settle h (up_cr hd).2, rfl⟩
theorem rok_write {n : Nat} {b : Int} {r : RDev} (h : ROk n b r) (i : Int) (l : List UInt8) : ROk n (b + 1) (writeR r i l).1 := by
  have a0 := h.w0
  have a1 := h.w1
  have a2 := h.f0
  have a3 := h.f1
  unfold writeR
  split
  · exact ⟨h.n1, h.n2, h.n3, a0, by show r.wr ≤ _; omega, by show _ ≤ r.left; omega, by show r.left ≤ _; omega⟩
  · split
    · exact ⟨h.n1, h.n2, h.n3, a0, by show r.wr ≤ _; omega, by show _ ≤ r.left; omega, by show r.left ≤ _; omega⟩
    · split
      · exact ⟨h.n1, h.n2, h.n3, a0, by show r.wr ≤ _; omega, by show _ ≤ r.left; omega, by show r.left ≤ _; omega⟩
      · exact ⟨by simp; exact h.n1, h.n2, by simp; exact h.n3, by show 0 ≤ r.wr + 1; omega, by show r.wr + 1 ≤ _; omega, by show _ ≤ r.left - 1; omega, by show r.left - 1 ≤ _; omega⟩
theorem rok_settle {n : Nat} {b : Int} {r : RDev} (h : ROk n b r) (ls : List (List UInt8)) (hl : ls.length = n) : ROk n b (settleR r ls) := ⟨hl, hl, by simp [settleR, hl], h.w0, h.w1, h.f0, h.f1⟩
theorem rok_flush {n : Nat} {b : Int} {r : RDev} (h : ROk n b r) : ROk n b (flushR r).1 := by
  unfold flushR
  split
  · exact h
  · exact rok_settle h _ h.n1
theorem rok_start {n : Nat} {b : Int} {r : RDev} (h : ROk n b r) (ks : List Bool) : ROk n b (startR r ks) := by
  unfold startR
  split
  · exact h
  · have := rok_settle h (startK r ks r.now.length).1 (by rw [length_startK]; exact h.n1)
    exact ⟨this.n1, this.n2, this.n3, this.w0, this.w1, this.f0, this.f1⟩
theorem rok_lose {n : Nat} {b : Int} {r : RDev} (h : ROk n b r) : ROk n b (loseR r) := by
  have := rok_settle h r.now h.n1
  exact ⟨this.n1, this.n2, this.n3, this.w0, this.w1, this.f0, this.f1⟩
theorem rok_replace {n : Nat} {b : Int} {r : RDev} (h : ROk n b r) (hb : 0 ≤ b) : ROk n b (replaceR r) := by
  unfold replaceR
  split
  · exact ⟨by simp [newR]; exact h.n1, by simp [newR]; exact h.n1, by simp [newR]; exact h.n1, h.w0, h.w1, by simp [newR]; omega, by simp [newR]; omega⟩
  · exact h
theorem ROk.mono {n : Nat} {b c : Int} {r : RDev} (h : ROk n b r) (hc : b ≤ c) : ROk n c r := ⟨h.n1, h.n2, h.n3, h.w0, by have := h.w1; omega, by have := h.f0; omega, by have := h.f1; omega⟩

/-- What a sector holds behind a start. -/
def keptAt (d : DS) (ks : List Bool) (j : Nat) : List UInt8 := if (d.L j).isSome = true then (if ks.getD (keysL d.L j).length false = true then (d.L j).getD zsec else d.s j) else d.s j
theorem startK_is {d : DS} {r : RDev} (h : Sim d r) (hlo : d.lo = false) (ks : List Bool) : ∀ k, k ≤ d.n → startK r ks k = ((List.range k).map (keptAt d ks), (keysL d.L k).length)
  | 0, _ => by
    have : (keysL d.L 0).length = 0 := by simp [keysL]
    rw [this]
    rfl
  | k + 1, hk => by
    have ih := startK_is h hlo ks k (by omega)
    have e1 := h.now hlo k (by omega)
    have e2 := h.safe hlo k (by omega)
    have e3 := h.loose hlo k (by omega)
    rw [startK, ih]
    simp only [List.getD_eq_getElem?_getD, e1, e2, e3, Option.getD_some]
    cases hL : d.L k with
    | none =>
      have : (keysL d.L (k + 1)).length = (keysL d.L k).length := by simp [keysL, List.range_succ, List.filter_append, hL]
      rw [this, List.range_succ, List.map_append]
      simp [keptAt, hL, DS.cur]
    | some x =>
      have : (keysL d.L (k + 1)).length = (keysL d.L k).length + 1 := by simp [keysL, List.range_succ, List.filter_append, hL]
      rw [this, List.range_succ, List.map_append]
      simp [keptAt, hL, DS.cur, List.getD_eq_getElem?_getD]
theorem keys_at (L : Nat → Option (List UInt8)) (n k : Nat) (hk : k < n) (x : List UInt8) (hL : L k = some x) : (keysL L n).getD (keysL L k).length 0 = k ∧ (keysL L k).length < (keysL L n).length := by
  have e : keysL L n = keysL L k ++ k :: (((List.range n).drop (k + 1)).filter fun i => (L i).isSome) := by
    unfold keysL
    have h1 : List.range n = List.range k ++ k :: (List.range n).drop (k + 1) := by
      apply List.ext_getElem?
      intro i
      by_cases h : i < k
      · rw [List.getElem?_append_left (by simpa using h)]; simp [h, Nat.lt_trans h hk]
      · rw [List.getElem?_append_right (by simp; omega)]
        simp only [List.length_range]
        by_cases h2 : i = k
        · subst h2; simp [hk]
        · obtain ⟨q, hq⟩ : ∃ q, i - k = q + 1 := ⟨i - k - 1, by omega⟩
          rw [hq, List.getElem?_cons_succ, List.getElem?_drop]
          congr 1
          omega
    conv => lhs; rw [h1]
    simp [List.filter_append, hL]
  rw [e]
  constructor
  · simp [List.getD_eq_getElem?_getD]
  · simp
theorem stepS_is (d : DS) (ks : List Bool) : ∀ k, k ≤ d.n → stepS d.s d.L (keysL d.L d.n) ks (keysL d.L k).length = fun j => if j < k then keptAt d ks j else d.s j
  | 0, _ => by
    have : (keysL d.L 0).length = 0 := by simp [keysL]
    rw [this]
    funext j
    simp [stepS]
  | k + 1, hk => by
    have ih := stepS_is d ks k (by omega)
    cases hL : d.L k with
    | none =>
      have : (keysL d.L (k + 1)).length = (keysL d.L k).length := by simp [keysL, List.range_succ, List.filter_append, hL]
      rw [this, ih]
      funext j
      by_cases h1 : j < k
      · rw [if_pos h1, if_pos (by omega)]
      · rw [if_neg h1]
        by_cases h2 : j = k
        · subst h2; rw [if_pos (by omega)]; simp [keptAt, hL]
        · rw [if_neg (by omega)]
    | some x =>
      have : (keysL d.L (k + 1)).length = (keysL d.L k).length + 1 := by simp [keysL, List.range_succ, List.filter_append, hL]
      obtain ⟨k1, _⟩ := keys_at d.L d.n k (by omega) x hL
      rw [this, stepS, ih, k1, hL]
      funext j
      by_cases hks : ks.getD (keysL d.L k).length false = true
      · rw [if_pos hks]
        unfold upd
        by_cases h2 : j = k
        · subst h2
          rw [if_pos rfl, if_pos (by omega)]
          unfold keptAt
          rw [hL, if_pos (show (some x).isSome = true from rfl), if_pos hks]
        · rw [if_neg h2]
          show (if j < k then keptAt d ks j else d.s j) = _
          by_cases h1 : j < k
          · rw [if_pos h1, if_pos (by omega)]
          · rw [if_neg h1, if_neg (by omega)]
      · rw [if_neg hks]
        by_cases h1 : j < k
        · rw [if_pos h1, if_pos (by omega)]
        · rw [if_neg h1]
          by_cases h2 : j = k
          · subst h2
            rw [if_pos (by omega)]
            unfold keptAt
            rw [hL, if_pos (show (some x).isSome = true from rfl), if_neg hks]
          · rw [if_neg (by omega)]
theorem sim_start {d : DS} {r : RDev} (h : Sim d r) (hlo : d.lo = false) (ks : List Bool) : Sim (d.started ks) (startR r ks) := by
  have hr : ¬ r.lo = true := by rw [h.lo, hlo]; decide
  have e : startR r ks = { settleR r (startK r ks r.now.length).1 with cr := false, ar := false } := if_neg hr
  have e2 := startK_is h hlo ks d.n (Nat.le_refl _)
  have e3 := stepS_is d ks d.n (Nat.le_refl _)
  have e4 : ∀ j, j < d.n → (startK r ks r.now.length).1[j]? = some ((d.started ks).s j) := by
    intro j hj
    rw [h.n1, e2]
    have : (d.started ks).s j = keptAt d ks j := by
      show stepS d.s d.L (keysL d.L d.n) ks (keysL d.L d.n).length j = _
      rw [e3]
      simp [hj]
    rw [this]
    simp [hj]
  rw [e]
  refine ⟨by simp [settleR, length_startK]; exact h.n1, by simp [settleR, length_startK]; exact h.n1, by simp [settleR, length_startK]; exact h.n1, rfl, h.lo, rfl, fun q => (by cases q), fun _ j hj => ?_, fun _ j hj => e4 j hj, fun _ j hj => ?_, fun q => ?_⟩
  · have : (d.started ks).cur j = (d.started ks).s j := by simp [DS.cur, DS.started, none64]
    rw [this]
    exact e4 j hj
  · have hj' : j < r.now.length := by rw [h.n1]; exact hj
    simp [settleR, DS.started, none64, length_startK, hj']
  · have q' : d.lo = true := q
    rw [hlo] at q'
    cases q'
end Go.Proofs.YtlmaooeeklhelaaGreatDoor.Tg

/-
  The document's toggle (drydockref04): Save: what its walk stands on.
-/
namespace Go.Proofs.YtlmaooeeklhelaaGreatDoor.Tg
open Go.RowKit Pk
set_option maxRecDepth 100000

section
variable {P : Program} {ops : Array Oper} {Q : Exit → Act → World → Prop} {md : Region.Mode} {S : World → Prop}
theorem wpAnyH_two {i j : Nat} {o o' : Oper} {fuel : Nat} {listed : Array Bool} {a : Act} {w : World} (li lj : Array Bool) (ho : ops[i]? = some o) (ho' : ops[j]? = some o') (hr : Region.ready md ops listed = [i, j]) (hl : listed.setIfInBounds i true = li) (hl' : listed.setIfInBounds j true = lj)
    (h : ∀ K : Act → World → Prop, (∀ a' w', S w' → wpAnyH P md ops Q S fuel li a' w' → K a' w') → if Region.wanted o (yielded ops a.tmps) = true then Oper.wp P o a w K Q else K (a.put o.dst undef) w)
    (h' : ∀ K : Act → World → Prop, (∀ a' w', S w' → wpAnyH P md ops Q S fuel lj a' w' → K a' w') → if Region.wanted o' (yielded ops a.tmps) = true then Oper.wp P o' a w K Q else K (a.put o'.dst undef) w) :
    wpAnyH P md ops Q S (fuel + 1) listed a w := by
  subst hl
  subst hl'
  refine wpAnyH_all hr (by simp) fun k hk => ?_
  have hk' : k = i ∨ k = j := by simpa using hk
  have g := h _ (fun a' w' h1 h2 => And.intro h1 h2)
  have g' := h' _ (fun a' w' h1 h2 => And.intro h1 h2)
  unfold wpOp
  rcases hk' with rfl | rfl
  · simp only [ho]
    split
    · rename_i hw
      rw [if_pos hw] at g
      exact .inl g
    · rename_i hw
      rw [if_neg hw] at g
      exact g
  · simp only [ho']
    split
    · rename_i hw
      rw [if_pos hw] at g'
      exact .inl g'
    · rename_i hw
      rw [if_neg hw] at g'
      exact g'
theorem exec_load {o : Oper} {a : Act} {W : World} (ty : TypeId) (x : Operand) (ho : o.op = .load ty x) (ad : Addr) (hx : a.eval x = .pointer (some ad)) {v : Value} (hl : (loadVar ty ad).run P W = .ok v W) : (execOp a.eval o).run P W = .ok (.value v) W := by
  unfold execOp
  simp only [ho, hx, Instr.loadAt, Instr.sureAddr, Sem.run_bind, Sem.run_pure, Result.andThen_ok, hl]
end
theorem step_store_box {ops : Array Oper} {o : Oper} {a : Act} {w : World} {K : Act → World → Prop} {Q : Exit → Act → World → Prop} {E : Prop} (hgd : o.guard = none) (x y : Operand) (ho : o.op = .store 33 x y)
    (g : Nat) (hx : a.eval x = .pointer (some ⟨g, 0, none⟩)) (v1 v2 v3 u1 u2 u3 : Value) (r s : RDev) (hy : a.eval y = devV v1 v2 v3 r) (h1 : One3 v1 v2 v3) (h : BoxAt w g u1 u2 u3 s)
    (hn : ∀ w', BoxAt w' g v1 v2 v3 r → Stay (fun k => k = g) w w' → K (a.put o.dst undef) w') : if Region.wanted o (yielded ops a.tmps) = true then Oper.wp Tryz.prog o a w K Q else E := by
  have hw : Region.wanted o (yielded ops a.tmps) = true := by simp [Region.wanted, hgd]
  rw [if_pos hw]
  have hrun := run_storeVar_mid (P := Tryz.prog) w g 0 33 33 [u1, u2, u3, .int .i64 s.wr, .bool s.ar, .int .i64 s.left, .bool s.cr, .bool s.lo] [v1, v2, v3, .int .i64 r.wr, .bool r.ar, .int .i64 r.left, .bool r.cr, .bool r.lo] h (by kernel_rfl) (Nat.le_refl _)
    (by intro v hv; simp at hv; rcases hv with rfl | rfl | rfl | rfl | rfl | rfl | rfl | rfl <;> first | rfl | exact h1.o1 | exact h1.o2 | exact h1.o3)
  have hrun2 : (storeVar 33 ⟨g, 0, none⟩ (devV v1 v2 v3 r)).run Tryz.prog w = _ := hrun
  unfold Oper.wp execOp
  simp only [ho, hx, hy, Instr.storeAt, Instr.sureAddr, Sem.run_bind, Sem.run_pure, Result.andThen_ok, hrun2]
  exact hn _ (setRow_heap w g _ _ 33 _ h) (Stay.setRow w g _ rfl)

/-- Save's variables: the device, the area, the answer. -/
structure SvSt (V : Nat → Prop) (w wr : World) (f s : Int) (n : Nat) (b : Int) (dk : DS) (u1 u2 u3 : Value) (rk : RDev) : Prop where
  box : BoxAt wr w.heap.size u1 u2 u3 rk
  dv : Dv wr u1 u2 u3 rk
  sim : Sim dk rk
  ok : ROk n b rk
  far : ∀ k, blk3 u1 u2 u3 k → (k < w.heap.size ∧ V k) ∨ w.heap.size + 3 ≤ k
  ar : ABox wr (w.heap.size + 1) f s
  res : BoxAt wr (w.heap.size + 2) (.slice none 0 0) (.slice none 0 0) (.slice none 0 0) zeroR
  sz : w.heap.size + 3 ≤ wr.heap.size
  st : Stay (fun j => w.heap.size ≤ j) w wr

theorem ask_some {d : DS} {f s : Int} {n m c : Nat} {b : Bool} (h : askD d f s = ((n, b, m), c)) (hc : c = 0 ∨ c = 8) : (0 ≤ f ∧ 3 ≤ s ∧ f ≤ d.n - s) ∧ ¬ down d = true := by
  unfold askD at h
  split at h
  · cases h; omega
  · rename_i hi
    split at h
    · cases h; omega
    · rename_i hd
      exact ⟨inB_spec hi, hd⟩
theorem ask_eight {d : DS} {f s : Int} {n m : Nat} {b : Bool} (h : askD d f s = ((n, b, m), 8)) : n = 0 ∧ b = false ∧ m = 0 := by
  unfold askD at h
  split at h
  · cases h
  · split at h
    · cases h
    · unfold tellD at h
      split at h
      · cases h; exact ⟨rfl, rfl, rfl⟩
      · split at h <;> cases h
theorem str_part (l : List UInt8) (k M : Nat) (hM : M = min l.length (64 * k + 64)) : (ByteArray.mk l.toArray).extract (64 * k) M = ByteArray.mk (partB l k).toArray := by
  apply ByteArray.ext
  have h1 : (ByteArray.mk l.toArray).extract (64 * k) M = ByteArray.mk (l.toArray.extract (64 * k) M) := by
    apply ByteArray.ext
    simp
  rw [h1]
  show l.toArray.extract (64 * k) M = (partB l k).toArray
  rw [List.extract_toArray]
  congr 1
  unfold partB
  simp only [List.extract_eq_take_drop]
  rw [List.take_eq_take_iff, List.length_drop, hM]
  omega

theorem SvSt.stay0 {V : Nat → Prop} {w wr wz : World} {f s : Int} {n : Nat} {b : Int} {dk : DS} {u1 u2 u3 : Value} {rk : RDev} (h : SvSt V w wr f s n b dk u1 u2 u3 rk) (hs : Stay (fun _ => False) wr wz) : SvSt V w wz f s n b dk u1 u2 u3 rk :=
  ⟨h.box.stay hs (fun y => y), h.dv.stay0 hs, h.sim, h.ok, h.far, h.ar.stay hs (fun y => y), h.res.stay hs (fun y => y), Nat.le_trans h.sz hs.size, h.st.trans (hs.mono (fun _ y => y.elim))⟩
theorem SvSt.next {V : Nat → Prop} {w wz w7 : World} {f s : Int} {n : Nat} {b c : Int} {dk dl : DS} {u1 u2 u3 y1 y2 y3 : Value} {rk r1 : RDev} (h : SvSt V w wz f s n b dk u1 u2 u3 rk) (hb : BoxAt w7 w.heap.size y1 y2 y3 r1) (hs : Stay (fun k => k = w.heap.size) wz w7)
    (hd : Dv wz y1 y2 y3 r1) (hsim : Sim dl r1) (hok : ROk n c r1) (hfar : ∀ j, blk3 y1 y2 y3 j → (j < w.heap.size ∧ V j) ∨ w.heap.size + 3 ≤ j) : SvSt V w w7 f s n c dl y1 y2 y3 r1 :=
  ⟨hb, hd.stayB hs (fun j hj (e : j = w.heap.size) => by have := hfar j hj; omega), hsim, hok, hfar, h.ar.stay hs (fun (e : w.heap.size + 1 = w.heap.size) => by omega), h.res.stay hs (fun (e : w.heap.size + 2 = w.heap.size) => by omega), Nat.le_trans h.sz hs.size, h.st.trans (hs.mono (fun j (e : j = w.heap.size) => by omega))⟩
theorem wrAll_stop (l : List UInt8) (d : DS) (i : Int) (k : Nat) (hk : k < parts l.length) (h : (writesD l d i (List.range (k + 1))).2 ≠ 0) : wrAllD d i l = writesD l d i (List.range (k + 1)) := by
  have e : List.range (parts l.length) = List.range (k + 1) ++ (List.range (parts l.length - (k + 1))).map (k + 1 + ·) := by
    rw [← List.range_add]
    congr 1
    omega
  have e2 := writesD_stop l (List.range (k + 1)) d i ((List.range (parts l.length - (k + 1))).map (k + 1 + ·)) h
  unfold wrAllD
  rw [e, e2, if_neg h]

theorem tell_all (d : DS) (i : Int) (n : Nat) (b : Bool) (m : Nat) : wrAllD d i (tellB n b m) = if (writeD d i (tellB n b m)).2 = 0 then flushD (writeD d i (tellB n b m)).1 else writeD d i (tellB n b m) := by
  obtain ⟨h1, h2⟩ := parts_tell n b m
  unfold wrAllD
  rw [h1]
  have e : List.range 1 = [0] := rfl
  rw [e]
  unfold writesD
  rw [h2]
  by_cases h : (writeD d i (tellB n b m)).2 = 0
  · rw [if_pos h, if_pos h]
    unfold writesD
    rw [if_pos rfl]
  · rw [if_neg h, if_neg h]
theorem rteller_at (n m : Nat) (z : Int) (hz : z = ((n : Nat) : Int)) (b : Bool) (w : World) (hn : (n : Int) ≤ 18446744073709551615) (hm : (m : Int) ≤ 9223372036854775807) :
    Calls Tryz.prog 43 #[.int .u64 z, .bool b, .int .i64 (m : Int)] w fun e w' => ∃ v, e = .returned v ∧ Owns w.heap.size w' v (tellB n b m) ∧ Stay (fun _ => False) w w' := by
  subst hz
  exact rteller_any n m b w hn hm
theorem step_load_box {ops : Array Oper} {o : Oper} {a : Act} {w : World} {K : Act → World → Prop} {Q : Exit → Act → World → Prop} {E : Prop} (hgd : o.guard = none) (x : Operand) (ho : o.op = .load 33 x)
    (g : Nat) (hx : a.eval x = .pointer (some ⟨g, 0, none⟩)) (v1 v2 v3 : Value) (r : RDev) (h : BoxAt w g v1 v2 v3 r) (hn : K (a.put o.dst (devV v1 v2 v3 r)) w) : if Region.wanted o (yielded ops a.tmps) = true then Oper.wp Tryz.prog o a w K Q else E := by
  have hw : Region.wanted o (yielded ops a.tmps) = true := by simp [Region.wanted, hgd]
  rw [if_pos hw]
  unfold Oper.wp execOp
  simp only [ho, hx, Instr.loadAt, Instr.sureAddr, Sem.run_bind, Sem.run_pure, Result.andThen_ok, run_load_box h]
  exact hn
theorem flush_all_of {d : DS} {i : Int} {l : List UInt8} (h : (writesD l d i (List.range (parts l.length))).2 = 0) : wrAllD d i l = flushD (writesD l d i (List.range (parts l.length))).1 := by
  unfold wrAllD
  rw [if_pos h]

theorem save_boxes (w : World) (v1 v2 v3 : Value) (r : RDev) (f s : Int) : ∃ w1, (((w.alloc (.cells #[v1, v2, v3, .int .i64 r.wr, .bool r.ar, .int .i64 r.left, .bool r.cr, .bool r.lo] 33)).alloc (.cells #[.int .i64 f, .int .i64 s] 23)).alloc (.cells #[.slice none 0 0, .slice none 0 0, .slice none 0 0, .int .i64 0, .bool false, .int .i64 0, .bool false, .bool false] 33)) = w1 ∧
    Hid (Stay (fun _ => False) w w1) ∧ Hid (w1.heap.size = w.heap.size + 3) ∧ Hid (BoxAt w1 w.heap.size v1 v2 v3 r) ∧ Hid (ABox w1 (w.heap.size + 1) f s) ∧ Hid (BoxAt w1 (w.heap.size + 2) (.slice none 0 0) (.slice none 0 0) (.slice none 0 0) zeroR) := by
  obtain ⟨w0, e0, s0, z0, b0, a0⟩ := dev_area w v1 v2 v3 r f s
  rw [e0]
  have n0 := heap_alloc_new w0 (.cells #[.slice none 0 0, .slice none 0 0, .slice none 0 0, .int .i64 0, .bool false, .int .i64 0, .bool false, .bool false] 33)
  rw [z0.out] at n0
  exact ⟨_, rfl, Lib.hid (s0.out.trans (Stay.alloc _ _)), Lib.hid (by simp [z0.out]), Lib.hid (b0.out.stay (Stay.alloc (X := fun _ => False) _ _) (fun y => y)), Lib.hid (a0.out.stay (Stay.alloc (X := fun _ => False) _ _) (fun y => y)), Lib.hid n0⟩

end Go.Proofs.YtlmaooeeklhelaaGreatDoor.Tg

