/-
  rs, plain: bytes as a field; sums; what is settled row by row, and that it is the inverse.
-/
import Derived.Test.YtaldpfamgfchoabGfP
namespace Go.Proofs.Ytaldpfamgfchoab.Rs
open Gf
set_option maxRecDepth 100000

/-- The product and the inverse of bytes. -/
def mulB (a b : UInt8) : UInt8 := UInt8.ofNat (mulN a.toNat b.toNat)
def invB (a : UInt8) : UInt8 := UInt8.ofNat (invN a.toNat)
theorem mulB_nat (a b : UInt8) : (mulB a b).toNat = mulN a.toNat b.toNat := by
  have := mulN_lt a.toNat b.toNat
  simp [mulB]; omega
theorem invB_nat (a : UInt8) : (invB a).toNat = invN a.toNat := by
  have := invN_lt a.toNat
  simp [invB]; omega
theorem u8_lt (a : UInt8) : a.toNat < 256 := a.toNat_lt
theorem u8_ne {a : UInt8} (h : a ≠ 0) : a.toNat ≠ 0 := fun e => h (UInt8.toNat_inj.1 (by simpa using e))
theorem mulB_comm (a b : UInt8) : mulB a b = mulB b a := UInt8.toNat_inj.1 (by rw [mulB_nat, mulB_nat, mulN_comm])
theorem mulB_assoc (a b c : UInt8) : mulB a (mulB b c) = mulB (mulB a b) c := UInt8.toNat_inj.1 (by rw [mulB_nat, mulB_nat, mulB_nat, mulB_nat, mulN_assoc])
theorem mulB_one (a : UInt8) : mulB a 1 = a := UInt8.toNat_inj.1 (by rw [mulB_nat]; exact mulN_one (u8_lt a))
theorem one_mulB (a : UInt8) : mulB 1 a = a := by rw [mulB_comm, mulB_one]
theorem mulB_zero (a : UInt8) : mulB a 0 = 0 := UInt8.toNat_inj.1 (by rw [mulB_nat]; exact mulN_zero _)
theorem zero_mulB (a : UInt8) : mulB 0 a = 0 := by rw [mulB_comm, mulB_zero]
theorem mulB_xor (a b c : UInt8) : mulB a (b ^^^ c) = mulB a b ^^^ mulB a c := UInt8.toNat_inj.1 (by rw [UInt8.toNat_xor, mulB_nat, mulB_nat, mulB_nat, UInt8.toNat_xor]; exact mulN_xor (u8_lt a) (u8_lt b) (u8_lt c))
theorem xor_mulB (a b c : UInt8) : mulB (a ^^^ b) c = mulB a c ^^^ mulB b c := by rw [mulB_comm, mulB_xor, mulB_comm c, mulB_comm c]
theorem mulB_inv {a : UInt8} (h : a ≠ 0) : mulB a (invB a) = 1 := UInt8.toNat_inj.1 (by rw [mulB_nat, invB_nat]; exact mul_inv (u8_ne h))
theorem inv_mulB {a : UInt8} (h : a ≠ 0) : mulB (invB a) a = 1 := by rw [mulB_comm, mulB_inv h]
theorem mulB_nz {a b : UInt8} (ha : a ≠ 0) (hb : b ≠ 0) : mulB a b ≠ 0 := fun e => by
  have h := congrArg (fun x => mulB (invB a) x) e
  simp only [mulB_assoc, inv_mulB ha, one_mulB, mulB_zero] at h
  exact hb h
theorem eq_of_xor {a b : UInt8} (h : a ^^^ b = 0) : a = b := by
  have : (a ^^^ b) ^^^ b = 0 ^^^ b := by rw [h]
  rwa [UInt8.xor_assoc, UInt8.xor_self, UInt8.xor_zero, UInt8.zero_xor] at this

/-- A sum. -/
def sumB : Nat → (Nat → UInt8) → UInt8
  | 0, _ => 0
  | n + 1, f => sumB n f ^^^ f n
theorem sumB_congr {f g : Nat → UInt8} : ∀ {n : Nat}, (∀ i, i < n → f i = g i) → sumB n f = sumB n g
  | 0, _ => rfl
  | n + 1, h => by
    unfold sumB
    rw [sumB_congr (fun i hi => h i (by omega)), h n (by omega)]
theorem sumB_none {f : Nat → UInt8} : ∀ {n : Nat}, (∀ i, i < n → f i = 0) → sumB n f = 0
  | 0, _ => rfl
  | n + 1, h => by
    unfold sumB
    rw [sumB_none (fun i hi => h i (by omega)), h n (by omega)]
    rfl
theorem xor4 (a b c d : UInt8) : (a ^^^ b) ^^^ (c ^^^ d) = (a ^^^ c) ^^^ (b ^^^ d) := by
  rw [UInt8.xor_assoc, UInt8.xor_assoc, ← UInt8.xor_assoc b, UInt8.xor_comm b c, UInt8.xor_assoc c]
theorem sumB_xor (f g : Nat → UInt8) : ∀ n, sumB n (fun i => f i ^^^ g i) = sumB n f ^^^ sumB n g
  | 0 => (by decide : (0 : UInt8) = 0 ^^^ 0)
  | n + 1 => by
    show sumB n (fun i => f i ^^^ g i) ^^^ (f n ^^^ g n) = (sumB n f ^^^ f n) ^^^ (sumB n g ^^^ g n)
    rw [sumB_xor f g n, xor4]
theorem mul_sumB (c : UInt8) (f : Nat → UInt8) : ∀ n, mulB c (sumB n f) = sumB n (fun i => mulB c (f i))
  | 0 => mulB_zero c
  | n + 1 => by
    show mulB c (sumB n f ^^^ f n) = sumB n (fun i => mulB c (f i)) ^^^ mulB c (f n)
    rw [mulB_xor, mul_sumB c f n]
theorem sumB_swap (f : Nat → Nat → UInt8) (m : Nat) : ∀ n, sumB n (fun i => sumB m (fun j => f i j)) = sumB m (fun j => sumB n (fun i => f i j))
  | 0 => (sumB_none (fun _ _ => rfl)).symm
  | n + 1 => by
    show sumB n (fun i => sumB m (fun j => f i j)) ^^^ sumB m (fun j => f n j) = _
    rw [sumB_swap f m n, ← sumB_xor]
    rfl
theorem sumB_one {f : Nat → UInt8} {p : Nat} : ∀ {n : Nat}, p < n → (∀ i, i < n → i ≠ p → f i = 0) → sumB n f = f p
  | 0, h, _ => by omega
  | n + 1, h, hz => by
    unfold sumB
    by_cases e : p = n
    · subst e
      rw [sumB_none (fun i hi => hz i (by omega) (by omega)), UInt8.zero_xor]
    · rw [sumB_one (f := f) (p := p) (by omega) (fun i hi hp => hz i (by omega) hp), hz n (by omega) (fun x => e x.symm), UInt8.xor_zero]
theorem sumB_split (f : Nat → UInt8) (n : Nat) : ∀ m, sumB (n + m) f = sumB n f ^^^ sumB m (fun i => f (n + i))
  | 0 => by rw [Nat.add_zero]; exact (UInt8.xor_zero).symm
  | m + 1 => by
    show sumB (n + m) f ^^^ f (n + m) = sumB n f ^^^ (sumB m (fun i => f (n + i)) ^^^ f (n + m))
    rw [sumB_split f n m, UInt8.xor_assoc]

/-- The first place from i on, of so many, at which it is so. -/
def firstP (p : Nat → Bool) : Nat → Nat → Option Nat
  | _, 0 => none
  | i, n + 1 => if p i then some i else firstP p (i + 1) n
theorem firstP_none {p : Nat → Bool} : ∀ {n i : Nat}, firstP p i n = none → ∀ k, i ≤ k → k < i + n → p k = false
  | 0, i, _, k, h1, h2 => by omega
  | n + 1, i, h, k, h1, h2 => by
    unfold firstP at h
    split at h
    · cases h
    · rename_i hp
      by_cases e : k = i
      · subst e; simpa using hp
      · exact firstP_none h k (by omega) (by omega)
theorem firstP_some {p : Nat → Bool} : ∀ {n i k : Nat}, firstP p i n = some k → i ≤ k ∧ k < i + n ∧ p k = true ∧ ∀ l, i ≤ l → l < k → p l = false
  | 0, i, k, h => by cases h
  | n + 1, i, k, h => by
    unfold firstP at h
    split at h
    · rename_i hp
      cases h
      exact ⟨Nat.le_refl _, by omega, hp, fun l h1 h2 => by omega⟩
    · rename_i hp
      obtain ⟨h1, h2, h3, h4⟩ := firstP_some h
      refine ⟨by omega, by omega, h3, fun l h5 h6 => ?_⟩
      by_cases e : l = i
      · subst e; simpa using hp
      · exact h4 l (by omega) h6

/-- Two rows change places. -/
def swapR (R : Nat → Nat → UInt8) (j p : Nat) : Nat → Nat → UInt8 := fun i => if i = j then R p else if i = p then R j else R i
/-- The row of a place, of which the number there is 1. -/
def ownR (S : Nat → Nat → UInt8) (j : Nat) : Nat → UInt8 := fun c => mulB (invB (S j j)) (S j c)
/-- The number at the place taken away from all others. -/
def stepR (S : Nat → Nat → UInt8) (j : Nat) : Nat → Nat → UInt8 := fun i c => if i = j then ownR S j c else S i c ^^^ mulB (S i j) (ownR S j c)
/-- A place settled. -/
def settleR (n : Nat) (R : Nat → Nat → UInt8) (j : Nat) : Option (Nat → Nat → UInt8) :=
  match firstP (fun i => R i j != 0) j (n - j) with
  | none => none
  | some p => some (stepR (swapR R j p) j)
/-- The first t places settled. -/
def runR (n : Nat) (R : Nat → Nat → UInt8) : Nat → Option (Nat → Nat → UInt8)
  | 0 => some R
  | t + 1 => match runR n R t with
    | none => none
    | some R' => settleR n R' t
/-- Rows with those of 1 at their own places behind them. -/
def augR (n : Nat) (m : Nat → Nat → UInt8) : Nat → Nat → UInt8 := fun i c => if c < n then m i c else if c = n + i then 1 else 0
def dot (W : Nat) (r z : Nat → UInt8) : UInt8 := sumB W (fun c => mulB (r c) (z c))

/-- What all rows of the one make 0, those of the other make 0. -/
def Imp (n W : Nat) (R' R : Nat → Nat → UInt8) : Prop := ∀ z, (∀ i, i < n → dot W (R' i) z = 0) → ∀ i, i < n → dot W (R i) z = 0
theorem Imp.refl (n W : Nat) (R : Nat → Nat → UInt8) : Imp n W R R := fun _ h => h
theorem Imp.trans {n W : Nat} {A B C : Nat → Nat → UInt8} (h : Imp n W A B) (k : Imp n W B C) : Imp n W A C := fun z hz => k z (h z hz)

theorem dot_scale (W : Nat) (x : UInt8) (r z : Nat → UInt8) : dot W (fun c => mulB x (r c)) z = mulB x (dot W r z) := by
  unfold dot
  rw [mul_sumB]
  exact sumB_congr (fun i _ => (mulB_assoc _ _ _).symm)
theorem dot_add (W : Nat) (r s z : Nat → UInt8) : dot W (fun c => r c ^^^ s c) z = dot W r z ^^^ dot W s z := by
  unfold dot
  rw [← sumB_xor]
  exact sumB_congr (fun i _ => xor_mulB _ _ _)

theorem imp_swap {n W j p : Nat} (R : Nat → Nat → UInt8) (hj : j < n) (hp : p < n) : Imp n W (swapR R j p) R := by
  intro z h i hi
  by_cases e1 : i = j
  · subst e1
    have := h p hp
    unfold swapR at this
    by_cases e2 : p = i
    · subst e2; simpa using this
    · simpa [e2] using this
  · by_cases e2 : i = p
    · subst e2
      have := h j hj
      simpa [swapR] using this
    · have := h i hi
      simpa [swapR, e1, e2] using this
theorem imp_step {n W j : Nat} (S : Nat → Nat → UInt8) (hj : j < n) (h0 : S j j ≠ 0) : Imp n W (stepR S j) S := by
  intro z h i hi
  have ho : dot W (ownR S j) z = 0 := by
    have := h j hj
    have e : stepR S j j = ownR S j := by funext c; unfold stepR; rw [if_pos rfl]
    rwa [e] at this
  by_cases e : i = j
  · subst e
    have e2 : (fun c => mulB (S i i) (ownR S i c)) = S i := by
      funext c
      unfold ownR
      rw [mulB_assoc, mulB_inv h0, one_mulB]
    rw [← e2, dot_scale, ho, mulB_zero]
  · have := h i hi
    have e2 : stepR S j i = fun c => S i c ^^^ (fun c => mulB (S i j) (ownR S j c)) c := by funext c; unfold stepR; rw [if_neg e]
    rw [e2, dot_add, dot_scale, ho, mulB_zero, UInt8.xor_zero] at this
    exact this
theorem imp_settle {n W j : Nat} {R R' : Nat → Nat → UInt8} (hj : j < n) (h : settleR n R j = some R') : Imp n W R' R := by
  unfold settleR at h
  split at h
  · cases h
  · rename_i p hp
    cases h
    obtain ⟨h1, h2, h3, _⟩ := firstP_some hp
    refine (imp_step _ hj ?_).trans (imp_swap R hj (by omega))
    unfold swapR
    rw [if_pos rfl]
    simpa using h3

/-- The first t columns are those of one. -/
def Unit1 (n t : Nat) (R : Nat → Nat → UInt8) : Prop := ∀ i, i < n → ∀ c, c < t → R i c = if i = c then 1 else 0
theorem unit_settle {n t : Nat} {R R' : Nat → Nat → UInt8} (ht : t < n) (hu : Unit1 n t R) (h : settleR n R t = some R') : Unit1 n (t + 1) R' := by
  unfold settleR at h
  split at h
  · cases h
  · rename_i p hp
    cases h
    obtain ⟨h1, h2, h3, _⟩ := firstP_some hp
    have hS : ∀ i, i < n → ∀ c, c < t → swapR R t p i c = if i = c then 1 else 0 := by
      intro i hi c hc
      unfold swapR
      by_cases e1 : i = t
      · rw [if_pos e1, hu p (by omega) c hc, if_neg (by omega), if_neg (by omega)]
      · rw [if_neg e1]
        by_cases e2 : i = p
        · rw [if_pos e2, hu t (by omega) c hc, if_neg (by omega), if_neg (by omega)]
        · rw [if_neg e2, hu i hi c hc]
    have h0 : swapR R t p t t ≠ 0 := by
      unfold swapR
      rw [if_pos rfl]
      simpa using h3
    generalize swapR R t p = S at hS h0
    intro i hi c hc
    unfold stepR ownR
    by_cases e : c = t
    · subst e
      rw [inv_mulB h0, mulB_one, UInt8.xor_self]
    · have hc' : c < t := by omega
      rw [hS t ht c hc', if_neg (show ¬ t = c by omega), mulB_zero, mulB_zero, UInt8.xor_zero, hS i hi c hc']
      by_cases e1 : i = t
      · rw [if_pos e1, if_neg (by omega)]
      · rw [if_neg e1]

theorem run_imp {n W : Nat} {R0 : Nat → Nat → UInt8} : ∀ {t : Nat} {R : Nat → Nat → UInt8}, t ≤ n → runR n R0 t = some R → Imp n W R R0 ∧ Unit1 n t R
  | 0, R, _, h => by
    cases h
    exact ⟨Imp.refl _ _ _, fun i _ c hc => by omega⟩
  | t + 1, R, ht, h => by
    unfold runR at h
    split at h
    · cases h
    · rename_i R1 h1
      obtain ⟨a, b⟩ := run_imp (W := W) (by omega) h1
      exact ⟨(imp_settle (by omega) h).trans a, unit_settle (by omega) b h⟩

theorem dot_aug {n : Nat} (m : Nat → Nat → UInt8) {i : Nat} (hi : i < n) (z : Nat → UInt8) : dot (n + n) (augR n m i) z = dot n (m i) z ^^^ z (n + i) := by
  unfold dot
  rw [sumB_split]
  congr 1
  · exact sumB_congr (fun c hc => by unfold augR; rw [if_pos hc])
  · rw [sumB_one (p := i) hi]
    · unfold augR
      rw [if_neg (by omega), if_pos rfl, one_mulB]
    · intro c _ hc
      unfold augR
      rw [if_neg (by omega), if_neg (by omega), zero_mulB]

/-- What a matrix makes of numbers. -/
def mulV (n : Nat) (m : Nat → Nat → UInt8) (z : Nat → UInt8) : Nat → UInt8 := fun i => dot n (m i) z
/-- The rows behind. -/
def backR (n : Nat) (R : Nat → Nat → UInt8) : Nat → Nat → UInt8 := fun i c => R i (n + c)
theorem dot_congr {n : Nat} {r s z y : Nat → UInt8} (h1 : ∀ c, c < n → r c = s c) (h2 : ∀ c, c < n → z c = y c) : dot n r z = dot n s y := sumB_congr (fun c hc => by rw [h1 c hc, h2 c hc])

theorem dot_unit {n c : Nat} (r : Nat → UInt8) (hc : c < n) : dot n r (fun l => if l = c then 1 else 0) = r c := by
  unfold dot
  rw [sumB_one (p := c) hc (fun l _ hl => by
    show mulB _ (if l = c then 1 else 0) = 0
    rw [if_neg hl, mulB_zero])]
  show mulB _ (if c = c then 1 else 0) = _
  rw [if_pos rfl, mulB_one]

/-- It is the inverse. -/
theorem inv_right {n : Nat} {m R : Nat → Nat → UInt8} (h : runR n (augR n m) n = some R) (y : Nat → UInt8) : ∀ i, i < n → mulV n m (mulV n (backR n R) y) i = y i := by
  obtain ⟨hi, hu⟩ := run_imp (W := n + n) (Nat.le_refl _) h
  intro i hn
  have := hi (fun c => if c < n then mulV n (backR n R) y c else y (c - n)) (fun l hl => by
    unfold dot
    rw [sumB_split, sumB_one (p := l) hl]
    · rw [hu l hl l hl, if_pos rfl, one_mulB]
      show (if l < n then _ else _) ^^^ _ = _
      rw [if_pos hl]
      have e : sumB n (fun i => mulB (R l (n + i)) (if n + i < n then mulV n (backR n R) y (n + i) else y (n + i - n))) = mulV n (backR n R) y l :=
        sumB_congr (fun c _ => by rw [if_neg (by omega), Nat.add_sub_cancel_left]; rfl)
      rw [e, UInt8.xor_self]
    · intro c hc hcl
      rw [hu l hl c hc, if_neg (fun e => hcl e.symm), zero_mulB]) i hn
  rw [dot_aug m hn, if_neg (by omega), Nat.add_sub_cancel_left] at this
  have e := eq_of_xor this
  rw [← e]
  exact dot_congr (fun _ _ => rfl) (fun c hc => by rw [if_pos hc])

/-- What makes nothing 0 but what is 0. -/
def Ker (n : Nat) (m : Nat → Nat → UInt8) : Prop := ∀ z, (∀ i, i < n → mulV n m z i = 0) → ∀ c, c < n → z c = 0
theorem run_ker {n : Nat} {m : Nat → Nat → UInt8} (hk : Ker n m) : ∀ {t : Nat}, t ≤ n → ∃ R, runR n (augR n m) t = some R
  | 0, _ => ⟨_, rfl⟩
  | t + 1, ht => by
    obtain ⟨R, hR⟩ := run_ker hk (t := t) (by omega)
    obtain ⟨hi, hu⟩ := run_imp (W := n + n) (by omega) hR
    unfold runR
    rw [hR]
    show ∃ R', settleR n R t = some R'
    unfold settleR
    cases hp : firstP (fun i => R i t != 0) t (n - t) with
    | some p => exact ⟨_, rfl⟩
    | none =>
      exfalso
      have h0 : ∀ i, t ≤ i → i < n → R i t = 0 := fun i h1 h2 => by simpa using firstP_none hp i h1 (by omega)
      let z : Nat → UInt8 := fun c => if c < t then R c t else if c = t then 1 else 0
      have hz := hi z (fun i hin => by
        unfold dot
        have e : n + n = t + 1 + (n + n - t - 1) := by omega
        rw [e, sumB_split]
        rw [sumB_none (n := n + n - t - 1) (fun c _ => by
          show mulB _ (if t + 1 + c < t then R (t + 1 + c) t else if t + 1 + c = t then 1 else 0) = 0
          rw [if_neg (by omega), if_neg (by omega), mulB_zero]), UInt8.xor_zero]
        show sumB t (fun c => mulB (R i c) (z c)) ^^^ mulB (R i t) (z t) = 0
        have e2 : z t = 1 := by show (if t < t then _ else if t = t then _ else _) = _; rw [if_neg (by omega), if_pos rfl]
        rw [e2, mulB_one]
        have e3 : sumB t (fun c => mulB (R i c) (z c)) = sumB t (fun c => mulB (if i = c then 1 else 0) (R c t)) :=
          sumB_congr (fun c hc => by
            rw [hu i hin c hc]
            show mulB _ (if c < t then R c t else _) = _
            rw [if_pos hc])
        rw [e3]
        by_cases hit : i < t
        · rw [sumB_one (p := i) hit (fun c _ hc => by rw [if_neg (fun e => hc e.symm), zero_mulB]), if_pos rfl, one_mulB, UInt8.xor_self]
        · rw [sumB_none (fun c hc => by rw [if_neg (by omega), zero_mulB]), h0 i (by omega) hin]
          rfl)
      have := hk z (fun i hin => by
        have h1 := hz i hin
        rw [dot_aug m hin] at h1
        have e : z (n + i) = 0 := by
          show (if n + i < t then _ else if n + i = t then _ else _) = _
          rw [if_neg (by omega), if_neg (by omega)]
        rwa [e, UInt8.xor_zero] at h1) t (by omega)
      have e2 : z t = 1 := by show (if t < t then _ else if t = t then _ else _) = _; rw [if_neg (by omega), if_pos rfl]
      rw [e2] at this
      exact absurd this (by decide)

theorem mulV_add {n : Nat} (m : Nat → Nat → UInt8) (y z : Nat → UInt8) (i : Nat) : mulV n m (fun c => y c ^^^ z c) i = mulV n m y i ^^^ mulV n m z i := by
  unfold mulV dot
  rw [← sumB_xor]
  exact sumB_congr (fun c _ => mulB_xor _ _ _)
theorem Ker.eq {n : Nat} {m : Nat → Nat → UInt8} (hk : Ker n m) {y z : Nat → UInt8} (h : ∀ i, i < n → mulV n m y i = mulV n m z i) : ∀ c, c < n → y c = z c := fun c hc =>
  eq_of_xor (hk (fun c => y c ^^^ z c) (fun i hi => by rw [mulV_add, h i hi, UInt8.xor_self]) c hc)
/-- What is not stuck makes nothing 0 but what is 0. -/
theorem ker_back {n : Nat} {m R : Nat → Nat → UInt8} (h : runR n (augR n m) n = some R) : Ker n (backR n R) := fun z hz c hc => by
  rw [← inv_right h z c hc]
  exact sumB_none (fun l hl => by
    show mulB (m c l) (mulV n (backR n R) z l) = 0
    rw [hz l hl, mulB_zero])
/-- The inverse's inverse is the matrix. -/
theorem inv_inv {n : Nat} {m R : Nat → Nat → UInt8} (h : runR n (augR n m) n = some R) : ∃ Z, runR n (augR n (backR n R)) n = some Z ∧ ∀ i, i < n → ∀ c, c < n → backR n Z i c = m i c := by
  obtain ⟨Z, hZ⟩ := run_ker (ker_back h) (Nat.le_refl _)
  refine ⟨Z, hZ, fun i hi c hc => ?_⟩
  have h1 := inv_right h (mulV n (backR n Z) (fun l => if l = c then 1 else 0)) i hi
  have h2 : ∀ i, i < n → mulV n (backR n R) (mulV n (backR n Z) (fun l => if l = c then 1 else 0)) i = if i = c then 1 else 0 := inv_right hZ _
  have h3 : mulV n m (mulV n (backR n R) (mulV n (backR n Z) (fun l => if l = c then 1 else 0))) i = m i c := by
    show dot n (m i) _ = _
    rw [dot_congr (fun _ _ => rfl) h2, dot_unit _ hc]
  rw [h3] at h1
  rw [h1]
  exact (dot_unit _ hc).symm
/-- What was made of numbers, made back. -/
theorem inv_made {n : Nat} {m R : Nat → Nat → UInt8} (hk : Ker n m) (h : runR n (augR n m) n = some R) (y : Nat → UInt8) : ∀ c, c < n → mulV n (backR n R) (mulV n m y) c = y c :=
  hk.eq (fun i hi => inv_right h (mulV n m y) i hi)
end Go.Proofs.Ytaldpfamgfchoab.Rs
