/-
  bloom: the filter of bytes, in plain lists.
-/
import Derived.Test.YtgchdgdhjafdbaaDoorPkSp
import Derived.Test.YtgchdgdhjafdbaaDoorPkW
import Derived.Test.YtgchdgdhjafdbaaDoorBoP
namespace Go.Proofs.YtgchdgdhjafdbaaDoor.Bo
open Go.RowKit Pk

theorem take_inv {α : Type} {rule : List UInt8 → Except Nat (α × List UInt8)} {zero : α} (hr : ∀ b c, rule b = .error c → c ≠ 0) {s : RS} (h : (takeB rule zero s).2.err = 0) :
    s.err = 0 ∧ ∃ v r, rule s.b = .ok (v, r) ∧ takeB rule zero s = (v, ⟨r, 0⟩) := by
  by_cases he : s.err = 0
  · cases hv : rule s.b with
    | error c =>
      rw [takeB_error he hv] at h
      exact absurd h (hr _ _ hv)
    | ok p =>
      obtain ⟨v, r⟩ := p
      exact ⟨he, v, r, rfl, takeB_ok he hv⟩
  · rw [takeB_bad he] at h
    exact absurd h he
theorem done_inv {s : RS} (h : doneB s = 0) : s.err = 0 ∧ s.b = [] := by
  unfold doneB at h
  by_cases he : s.err ≠ 0
  · rw [if_pos he] at h; exact absurd h he
  · rw [if_neg he] at h
    refine ⟨Classical.not_not.1 he, ?_⟩
    by_cases hb : 0 < s.b.length
    · rw [if_pos hb] at h; cases h
    · exact List.length_eq_zero_iff.1 (by omega)
theorem text_of {most : Int} {b r t : List UInt8} (h : textB most b = .ok (t, r)) : ∃ r1, numB M64 b = .ok (t.length, r1) ∧ t = r1.take t.length ∧ r = r1.drop t.length ∧ t.length ≤ r1.length ∧ (t.length : Int) ≤ most := by
  by_cases h0 : most < 0
  · rw [textB_neg h0] at h; cases h
  cases hn : numB M64 b with
  | error c => rw [textB_err h0 hn] at h; cases h
  | ok p =>
    obtain ⟨n, r1⟩ := p
    by_cases h1 : most < (n : Int)
    · rw [textB_long h0 hn h1] at h; cases h
    · by_cases h2 : r1.length < n
      · rw [textB_end h0 hn h1 h2] at h; cases h
      · rw [textB_ok h0 hn h1 h2] at h
        cases h
        have e : (r1.take n).length = n := by rw [List.length_take]; omega
        exact ⟨r1, by rw [e], by rw [e], by rw [e], by rw [e]; omega, by rw [e]; omega⟩
theorem text_to {most most2 : Int} {b r t : List UInt8} (h : textB most b = .ok (t, r)) (hm : (t.length : Int) ≤ most2) : textB most2 b = .ok (t, r) := by
  obtain ⟨r1, h1, h2, h3, h4, h5⟩ := text_of h
  rw [textB_ok (by omega) h1 (by omega) (by omega), ← h2, ← h3]
theorem text_code (most : Int) : ∀ b c, textB most b = .error c → c ≠ 0 := fun b c hc => by have := textB_codes hc; omega
theorem num_code (most : Nat) : ∀ b c, numB most b = .error c → c ≠ 0 := fun b c hc => by have := numB_err hc; omega
theorem take_le (most : Nat) (s : RS) : (takeB (numB most) 0 s).1 ≤ most := by
  by_cases he : s.err = 0
  · cases hv : numB most s.b with
    | error c => rw [takeB_error he hv]; exact Nat.zero_le _
    | ok p =>
      obtain ⟨v, r⟩ := p
      rw [takeB_ok he hv]
      exact numB_le hv
  · rw [takeB_bad he]; exact Nat.zero_le _
theorem text_shorter {most : Int} {b r t : List UInt8} (h : textB most b = .ok (t, r)) : t.length ≤ b.length := by
  obtain ⟨r1, h1, _, _, h4, _⟩ := text_of h
  have := numB_len h1
  omega
theorem take_b_len (most : Nat) (s : RS) : (takeB (numB most) 0 s).2.b.length ≤ s.b.length := by
  by_cases he : s.err = 0
  · cases hv : numB most s.b with
    | error c => rw [takeB_error he hv]; exact Nat.le_refl _
    | ok p =>
      obtain ⟨v, r⟩ := p
      rw [takeB_ok he hv]
      exact numB_len hv
  · rw [takeB_bad he]; exact Nat.le_refl _

/-- Bytes taken off by two bounds: the same, where either takes all and few. -/
theorem two_bounds {s : RS} {N : Nat} (hN : s.b.length ≤ N) :
    (doneB (takeB (textB 131072) [] s).2 = 0 → takeB (textB (N : Int)) [] s = takeB (textB 131072) [] s) ∧
    (doneB (takeB (textB (N : Int)) [] s).2 = 0 → (takeB (textB (N : Int)) [] s).1.length ≤ 131072 → takeB (textB (N : Int)) [] s = takeB (textB 131072) [] s) := by
  constructor
  · intro h
    obtain ⟨he, v, r, h1, h2⟩ := take_inv (text_code _) (done_inv h).1
    rw [h2]
    exact takeB_ok he (text_to h1 (by have := text_shorter h1; omega))
  · intro h hl
    obtain ⟨he, v, r, h1, h2⟩ := take_inv (text_code _) (done_inv h).1
    rw [h2] at hl ⊢
    exact (takeB_ok he (text_to h1 (by show (v.length : Int) ≤ 131072; have : v.length ≤ 131072 := hl; omega))).symm

/-- Whether a bit behind the last of so many is set, as the last byte tells. -/
def oddB (x : List UInt8) (s : Nat) : Bool := decide (0 < s % 8) && decide (0 < (x.getD (x.length - 1) 0).toNat / 2 ^ (s % 8))
theorem odd_iff {x : List UInt8} {s : Nat} (hs : 1 ≤ s) (hx : x.length = need s) : oddB x s = true ↔ ∃ i, s ≤ i ∧ bt x i = true := by
  unfold need at hx
  unfold oddB
  rw [Bool.and_eq_true, decide_eq_true_iff, decide_eq_true_iff]
  constructor
  · rintro ⟨h1, h2⟩
    obtain ⟨j, hj⟩ := Nat.exists_testBit_of_ne_zero (Nat.pos_iff_ne_zero.1 h2)
    rw [← Nat.shiftRight_eq_div_pow, Nat.testBit_shiftRight] at hj
    have h8 : s % 8 + j < 8 := by
      apply Classical.byContradiction
      intro hge
      have : (x.getD (x.length - 1) 0).toNat < 2 ^ (s % 8 + j) := Nat.lt_of_lt_of_le (UInt8.toNat_lt _) (Nat.pow_le_pow_right (by decide) (by omega))
      rw [Nat.testBit_lt_two_pow this] at hj
      cases hj
    refine ⟨8 * (x.length - 1) + (s % 8 + j), by omega, ?_⟩
    unfold bt
    rw [show (8 * (x.length - 1) + (s % 8 + j)) / 8 = x.length - 1 by omega, show (8 * (x.length - 1) + (s % 8 + j)) % 8 = s % 8 + j by omega]
    exact hj
  · rintro ⟨i, hi, hb⟩
    unfold bt at hb
    by_cases hl : i / 8 < x.length
    · have e1 : i / 8 = x.length - 1 := by omega
      have h1 : 0 < s % 8 := by omega
      have h2 : s % 8 ≤ i % 8 := by omega
      refine ⟨h1, ?_⟩
      rw [e1] at hb
      apply Nat.pos_of_ne_zero
      intro h0
      rw [← Nat.shiftRight_eq_div_pow] at h0
      have h3 := Nat.testBit_shiftRight (i := s % 8) (j := i % 8 - s % 8) (x.getD (x.length - 1) 0).toNat
      rw [h0, Nat.zero_testBit, show s % 8 + (i % 8 - s % 8) = i % 8 by omega, hb] at h3
      cases h3
    · rw [getD_out _ (by omega)] at hb
      rw [show (0 : UInt8).toNat = 0 from rfl, Nat.zero_testBit] at hb
      cases hb

/-- The bits of bytes. -/
def bitsOf (s : Nat) (x : List UInt8) : List Bool := (List.range s).map (bt x)
theorem bitsOf_len (s : Nat) (x : List UInt8) : (bitsOf s x).length = s := by simp [bitsOf]
theorem bitsOf_at {s i : Nat} (x : List UInt8) (h : i < s) : (bitsOf s x)[i]? = some (bt x i) := by simp [bitsOf, h]
theorem bitsOf_is {s : Nat} {x : List UInt8} (hs : 1 ≤ s) (hx : x.length = need s) (ho : oddB x s = false) : IsP (bitsOf s x) x := by
  refine ⟨by rw [bitsOf_len]; exact hx, fun n => ?_⟩
  by_cases hn : n < s
  · rw [List.getD_eq_getElem?_getD, bitsOf_at x hn]
    rfl
  · rw [getD_out _ (by rw [bitsOf_len]; omega)]
    cases hb : bt x n with
    | false => rfl
    | true =>
      have := (odd_iff hs hx).2 ⟨n, by omega, hb⟩
      rw [ho] at this
      cases this

/-- What the reader takes off. -/
def decA (b : List UInt8) : Nat × RS := takeB (numB 1048576) 0 ⟨b, 0⟩
def decK (b : List UInt8) : Nat × RS := takeB (numB 16) 0 (decA b).2
def decX (b : List UInt8) : List UInt8 × RS := takeB (textB 131072) [] (decK b).2
/-- Whether bytes are a filter's. -/
def goodB (b : List UInt8) : Bool := decide (1 ≤ (decA b).1) && decide (1 ≤ (decK b).1) && decide (doneB (decX b).2 = 0) && decide ((decX b).1.length = need (decA b).1) && !oddB (decX b).1 (decA b).1
structure Good (b : List UInt8) : Prop where
  n1 : 1 ≤ (decA b).1
  k1 : 1 ≤ (decK b).1
  dn : doneB (decX b).2 = 0
  ln : (decX b).1.length = need (decA b).1
  od : oddB (decX b).1 (decA b).1 = false
theorem good_of {b : List UInt8} (h : goodB b = true) : Good b := by
  unfold goodB at h
  simp only [Bool.and_eq_true, decide_eq_true_eq, Bool.not_eq_true'] at h
  obtain ⟨⟨⟨⟨h1, h2⟩, h3⟩, h4⟩, h5⟩ := h
  exact ⟨h1, h2, h3, h4, h5⟩
theorem good_to {b : List UInt8} (h : Good b) : goodB b = true := by
  unfold goodB
  rw [decide_eq_true h.n1, decide_eq_true h.k1, decide_eq_true h.dn, decide_eq_true h.ln, h.od]
  rfl
theorem Good.nle {b : List UInt8} : (decA b).1 ≤ 1048576 := take_le _ _
theorem Good.kle {b : List UInt8} : (decK b).1 ≤ 16 := take_le _ _
def decBits (b : List UInt8) : List Bool := bitsOf (decA b).1 (decX b).1
theorem decBits_len (b : List UInt8) : (decBits b).length = (decA b).1 := bitsOf_len _ _
theorem Good.is {b : List UInt8} (h : Good b) : IsP (decBits b) (decX b).1 := bitsOf_is h.n1 h.ln h.od

/-- What bytes tell is told by the same bytes again. -/
theorem Good.enc {b : List UInt8} (h : Good b) : spellB (decBits b).length ++ spellB (decK b).1 ++ bytesB (packB (decBits b)) = b := by
  obtain ⟨he, hb⟩ := done_inv h.dn
  have hx := h.is.is
  rw [decBits_len, ← hx]
  unfold decX at he hb ⊢
  obtain ⟨he2, x, r3, h3, e3⟩ := take_inv (text_code _) he
  rw [e3] at hb ⊢
  dsimp only at hb ⊢
  subst hb
  unfold decK at he2 h3 ⊢
  obtain ⟨he1, k, r2, h2, e2⟩ := take_inv (num_code _) he2
  rw [e2] at h3 ⊢
  dsimp only at h3 ⊢
  unfold decA at he1 h2 ⊢
  obtain ⟨_, n, r1, h1, e1⟩ := take_inv (num_code _) he1
  rw [e1] at h2 ⊢
  dsimp only at h1 h2 ⊢
  obtain ⟨r4, h4, h5, h6, h7, _⟩ := text_of h3
  obtain ⟨f1, _⟩ := spell_num h1
  obtain ⟨f2, _⟩ := spell_num h2
  obtain ⟨f4, _⟩ := spell_num h4
  rw [f1, f2]
  unfold bytesB
  rw [List.append_assoc, f4]
  congr 2
  have e : r4.take x.length ++ r4.drop x.length = r4 := List.take_append_drop _ _
  rw [← h6, ← h5, List.append_nil] at e
  rw [← e]
/-- What the document's reader takes off last. -/
def rX (b : List UInt8) : List UInt8 × RS := takeB (textB (b.length : Int)) [] (decK b).2
theorem dec_len (b : List UInt8) : (decK b).2.b.length ≤ b.length := Nat.le_trans (take_b_len 16 (decA b).2) (take_b_len 1048576 ⟨b, 0⟩)
theorem good_rx {b : List UInt8} (h : goodB b = true) : rX b = decX b := (two_bounds (dec_len b)).1 (good_of h).dn
theorem good_r (b : List UInt8) : goodB b = (decide (1 ≤ (decA b).1) && decide (1 ≤ (decK b).1) && decide (doneB (rX b).2 = 0) && decide ((rX b).1.length = need (decA b).1) && !oddB (rX b).1 (decA b).1) := by
  obtain ⟨t1, t2⟩ := two_bounds (dec_len b)
  by_cases hd : doneB (decX b).2 = 0
  · have e : rX b = decX b := t1 hd
    rw [e]
    rfl
  · have e1 : goodB b = false := by
      unfold goodB
      rw [decide_eq_false (p := doneB (decX b).2 = 0) hd]
      simp
    rw [e1]
    symm
    by_cases h2 : doneB (rX b).2 = 0
    · by_cases h3 : (rX b).1.length = need (decA b).1
      · have hn := Good.nle (b := b)
        have e : rX b = decX b := t2 h2 (by show (rX b).1.length ≤ 131072; rw [h3]; unfold need; omega)
        rw [e] at h2
        exact absurd h2 hd
      · rw [decide_eq_false h3]; simp
    · rw [decide_eq_false h2]; simp
end Go.Proofs.YtgchdgdhjafdbaaDoor.Bo
