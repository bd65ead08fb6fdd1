/-
  rs: slices.IndexFunc over rows, for a function that keeps all there was (even's and settle's).
-/
import Derived.Test.YtaldpfamgfchoabRsN
namespace Go.Proofs.Ytaldpfamgfchoab.Rs
open Go.RowKit Gf
set_option maxRecDepth 100000

/-- The first place at which it is so, or -1. -/
def firstI (p : Nat → Bool) (n : Nat) : Int := match firstP p 0 n with
  | none => -1
  | some k => (k : Int)
theorem firstP_step {p : Nat → Bool} : ∀ {n i k : Nat}, k < n → (∀ l, i ≤ l → l < i + k → p l = false) → p (i + k) = true → firstP p i n = some (i + k)
  | 0, i, k, h, _, _ => by omega
  | n + 1, i, k, h, h1, h2 => by
    unfold firstP
    by_cases e : k = 0
    · subst e
      rw [if_pos (by simpa using h2)]
      rfl
    · rw [if_neg (by rw [h1 i (Nat.le_refl _) (by omega)]; decide)]
      have := firstP_step (n := n) (i := i + 1) (k := k - 1) (by omega) (fun l a b => h1 l (by omega) (by omega)) (by rw [show i + 1 + (k - 1) = i + k by omega]; exact h2)
      rw [this, show i + 1 + (k - 1) = i + k by omega]
theorem firstP_all {p : Nat → Bool} : ∀ {n i : Nat}, (∀ l, i ≤ l → l < i + n → p l = false) → firstP p i n = none
  | 0, _, _ => rfl
  | n + 1, i, h => by
    unfold firstP
    rw [if_neg (by rw [h i (Nat.le_refl _) (by omega)]; decide)]
    exact firstP_all (fun l a b => h l (by omega) (by omega))

set_option maxHeartbeats 1000000 in
theorem index_even (w : World) (cap : Value) (p : Nat → Bool) (a0 : Option Addr) (n c : Nat) (L : Nat → Nat) (M : Nat → Nat → UInt8) (hx : SM (fun _ => False) w (.slice a0 n c) n L M)
    (hf : ∀ W i ai ci, Stay (fun _ => False) w W → i < n → Slc W (.slice ai (L i) ci) (lf (L i) (M i)) → Calls Try.prog 20 #[.slice ai (L i) ci, cap] W fun e w' => e = .returned (.bool (p i)) ∧ Stay (fun _ => False) W w') :
    Calls Try.prog 25 #[.slice a0 n c, .func (.func 20) #[] #[cap]] w fun e w' => e = .returned (.int .i64 (firstI p n)) ∧ Stay (fun _ => False) w w' := by
  have q0 : (n : Int) ≤ 9223372036854775807 := by obtain ⟨_, _, e, h1, h2, _⟩ := hx; cases e; omega
  have HX := Lib.hid hx
  have HF := Lib.hid hf
  clear hx hf
  go_enter Try.func25, Try.ntmps25
  go_wp2
  go_loopw [8] (fun i wr => ∃ t : Nat, t ≤ n ∧ i = .int .i64 (t : Int) ∧ (∀ l, l < t → p l = false) ∧ Stay (fun _ => False) w wr) (fun i _ => n - (intOf i).toNat)
  case atStart => exact ⟨0, by omega, rfl, fun l h => by omega, Stay.refl _ _⟩
  case round =>
    obtain ⟨t, ht, rfl, hp, hst⟩ := hrel
    by_cases hlt : t < n
    · have q1 : (t : Int) < (n : Int) := by omega
      obtain ⟨b, o, ak, ck, rfl, cR, sR, _⟩ := HX.out.row hlt
      have k1 := (cR.stay hst).now
      have HS := Lib.hid (sR.stay hst).now
      have HP := Lib.hid hp
      have HST := Lib.hid hst
      have HT := Lib.hid hlt
      clear hp hst hlt cR sR
      go_wp2_with fail
      refine (HF.out wr t ak ck HST.out HT.out HS.out).mono ?_
      rintro e w2 ⟨rfl, s2⟩
      have S2 := Lib.hid s2
      clear s2 k1
      cases hpt : p t with
      | true =>
        have HPT := Lib.hid hpt
        clear hpt
        go_wp2
        go_ret
        refine ⟨?_, HST.out.trans S2.out⟩
        have := firstP_step (p := p) (n := n) (i := 0) (k := t) HT.out (fun l _ hl => HP.out l (by omega)) (by rw [Nat.zero_add]; exact HPT.out)
        unfold firstI
        rw [this, Nat.zero_add]
        rfl
      | false =>
        have HPT := Lib.hid hpt
        clear hpt
        go_wp2
        have ht := HT.out
        go_round
        case rel =>
          refine ⟨t + 1, by omega, by go_num, fun l hl => ?_, HST.out.trans S2.out⟩
          by_cases e : l = t
          · rw [e]; exact HPT.out
          · exact HP.out l (by omega)
        case measure => simp [intOf]; omega
    · obtain rfl : t = n := by omega
      have HP := Lib.hid hp
      have HST := Lib.hid hst
      clear hp hst
      go_wp2
      go_ret
      refine ⟨?_, HST.out⟩
      unfold firstI
      rw [firstP_all (fun l _ hl => HP.out l (by omega))]
      rfl

set_option maxHeartbeats 1000000 in
theorem index_settle (w : World) (cap : Value) (p : Nat → Bool) (a0 : Option Addr) (n c : Nat) (L : Nat → Nat) (M : Nat → Nat → UInt8) (hx : SM (fun _ => False) w (.slice a0 n c) n L M)
    (hf : ∀ W i ai ci, Stay (fun _ => False) w W → i < n → Slc W (.slice ai (L i) ci) (lf (L i) (M i)) → Calls Try.prog 28 #[.slice ai (L i) ci, cap] W fun e w' => e = .returned (.bool (p i)) ∧ Stay (fun _ => False) W w') :
    Calls Try.prog 25 #[.slice a0 n c, .func (.func 28) #[] #[cap]] w fun e w' => e = .returned (.int .i64 (firstI p n)) ∧ Stay (fun _ => False) w w' := by
  have q0 : (n : Int) ≤ 9223372036854775807 := by obtain ⟨_, _, e, h1, h2, _⟩ := hx; cases e; omega
  have HX := Lib.hid hx
  have HF := Lib.hid hf
  clear hx hf
  go_enter Try.func25, Try.ntmps25
  go_wp2
  go_loopw [8] (fun i wr => ∃ t : Nat, t ≤ n ∧ i = .int .i64 (t : Int) ∧ (∀ l, l < t → p l = false) ∧ Stay (fun _ => False) w wr) (fun i _ => n - (intOf i).toNat)
  case atStart => exact ⟨0, by omega, rfl, fun l h => by omega, Stay.refl _ _⟩
  case round =>
    obtain ⟨t, ht, rfl, hp, hst⟩ := hrel
    by_cases hlt : t < n
    · have q1 : (t : Int) < (n : Int) := by omega
      obtain ⟨b, o, ak, ck, rfl, cR, sR, _⟩ := HX.out.row hlt
      have k1 := (cR.stay hst).now
      have HS := Lib.hid (sR.stay hst).now
      have HP := Lib.hid hp
      have HST := Lib.hid hst
      have HT := Lib.hid hlt
      clear hp hst hlt cR sR
      go_wp2_with fail
      refine (HF.out wr t ak ck HST.out HT.out HS.out).mono ?_
      rintro e w2 ⟨rfl, s2⟩
      have S2 := Lib.hid s2
      clear s2 k1
      cases hpt : p t with
      | true =>
        have HPT := Lib.hid hpt
        clear hpt
        go_wp2
        go_ret
        refine ⟨?_, HST.out.trans S2.out⟩
        have := firstP_step (p := p) (n := n) (i := 0) (k := t) HT.out (fun l _ hl => HP.out l (by omega)) (by rw [Nat.zero_add]; exact HPT.out)
        unfold firstI
        rw [this, Nat.zero_add]
        rfl
      | false =>
        have HPT := Lib.hid hpt
        clear hpt
        go_wp2
        have ht := HT.out
        go_round
        case rel =>
          refine ⟨t + 1, by omega, by go_num, fun l hl => ?_, HST.out.trans S2.out⟩
          by_cases e : l = t
          · rw [e]; exact HPT.out
          · exact HP.out l (by omega)
        case measure => simp [intOf]; omega
    · obtain rfl : t = n := by omega
      have HP := Lib.hid hp
      have HST := Lib.hid hst
      clear hp hst
      go_wp2
      go_ret
      refine ⟨?_, HST.out⟩
      unfold firstI
      rw [firstP_all (fun l _ hl => HP.out l (by omega))]
      rfl
end Go.Proofs.Ytaldpfamgfchoab.Rs
