/-
  bloom: bits of keys and of bytes, as plain numbers and lists.
-/
import Derived.Test.YtgchdgdhjafdbaaDoorHnPlain
namespace Go.Proofs.YtgchdgdhjafdbaaDoor.Bo
open Hn

/-- The bits that a key asks for. -/
def bitN (s : Nat) (k : List UInt8) (i : Nat) : Nat := (moreN 1 k + i * moreN 1 (1 :: k)) % s
def bitsN (s q : Nat) (k : List UInt8) : List Nat := (List.range q).map (bitN s k)
theorem bitN_lt {s : Nat} (h : 0 < s) (k : List UInt8) (i : Nat) : bitN s k i < s := Nat.mod_lt _ h
theorem bitsN_len (s q : Nat) (k : List UInt8) : (bitsN s q k).length = q := by simp [bitsN]
theorem bitsN_succ (s q : Nat) (k : List UInt8) : bitsN s (q + 1) k = bitsN s q k ++ [bitN s k q] := by simp [bitsN, List.range_succ]
theorem bitsN_zero (s : Nat) (k : List UInt8) : bitsN s 0 k = [] := rfl
theorem bitsN_at {s q i : Nat} {k : List UInt8} (h : i < q) : (bitsN s q k)[i]? = some (bitN s k i) := by simp [bitsN, h]
theorem bitsN_lt {s : Nat} (h : 0 < s) {q n : Nat} {k : List UInt8} (hn : n ∈ bitsN s q k) : n < s := by
  unfold bitsN at hn
  obtain ⟨i, _, rfl⟩ := List.mem_map.1 hn
  exact bitN_lt h k i

/-- How many bytes so many bits need. -/
def need (s : Nat) : Nat := (s + 7) / 8
/-- The bit n of bytes. -/
def bt (L : List UInt8) (n : Nat) : Bool := (L.getD (n / 8) 0).toNat.testBit (n % 8)

/-- Bytes that are these bits. -/
structure IsP (B : List Bool) (L : List UInt8) : Prop where
  len : L.length = need B.length
  bit : ∀ n, bt L n = B.getD n false

theorem getD_in {α : Type} {l : List α} {i : Nat} (d : α) (h : i < l.length) : l.getD i d = l[i] := by simp [List.getD_eq_getElem?_getD, h]
theorem getD_out {α : Type} {l : List α} {i : Nat} (d : α) (h : l.length ≤ i) : l.getD i d = d := by simp [List.getD_eq_getElem?_getD, h]
theorem byte_eq {a b : UInt8} (h : ∀ i, i < 8 → a.toNat.testBit i = b.toNat.testBit i) : a = b := by
  apply UInt8.toNat.inj
  apply Nat.eq_of_testBit_eq
  intro i
  by_cases hi : i < 8
  · exact h i hi
  · have ha : a.toNat < 2 ^ i := Nat.lt_of_lt_of_le a.toNat_lt (Nat.pow_le_pow_right (by decide) (by omega))
    have hb : b.toNat < 2 ^ i := Nat.lt_of_lt_of_le b.toNat_lt (Nat.pow_le_pow_right (by decide) (by omega))
    rw [Nat.testBit_lt_two_pow ha, Nat.testBit_lt_two_pow hb]
theorem eq_of_bt {L M : List UInt8} (hl : L.length = M.length) (h : ∀ n, bt L n = bt M n) : L = M := by
  apply List.ext_getElem hl
  intro j h1 h2
  apply byte_eq
  intro i hi
  have := h (8 * j + i)
  unfold bt at this
  rw [show (8 * j + i) / 8 = j by omega, show (8 * j + i) % 8 = i by omega, getD_in _ h1, getD_in _ h2] at this
  exact this
theorem IsP.uniq {B : List Bool} {L M : List UInt8} (h : IsP B L) (h' : IsP B M) : L = M :=
  eq_of_bt (h.len.trans h'.len.symm) (fun n => (h.bit n).trans (h'.bit n).symm)
theorem bits_eq {B C : List Bool} (hl : B.length = C.length) (h : ∀ n, B.getD n false = C.getD n false) : B = C := by
  apply List.ext_getElem hl
  intro j h1 h2
  have := h j
  rwa [getD_in _ h1, getD_in _ h2] at this
theorem IsP.back {B C : List Bool} {L : List UInt8} (hl : B.length = C.length) (h : IsP B L) (h' : IsP C L) : B = C :=
  bits_eq hl (fun n => (h.bit n).symm.trans (h'.bit n))
theorem need_le (s : Nat) : s ≤ 8 * need s := by unfold need; omega
theorem at_need {s n : Nat} (h : n < s) : n / 8 < need s := by unfold need; omega

theorem getD_set {α : Type} {l : List α} {i j : Nat} {a d : α} (hi : i < l.length) : (l.set i a).getD j d = if j = i then a else l.getD j d := by
  by_cases h : j = i
  · subst h
    rw [if_pos rfl, getD_in _ (by rw [List.length_set]; exact hi), List.getElem_set_self]
  · rw [if_neg h]
    simp only [List.getD_eq_getElem?_getD, List.getElem?_set_ne (fun e => h e.symm)]

/-- No bit is set. -/
theorem IsP.none (s : Nat) : IsP (List.replicate s false) (List.replicate (need s) 0) := by
  refine ⟨by simp, fun n => ?_⟩
  have h1 : (List.replicate (need s) (0 : UInt8)).getD (n / 8) 0 = 0 := by
    by_cases h : n / 8 < need s
    · rw [getD_in _ (by simpa using h), List.getElem_replicate]
    · rw [getD_out _ (by simpa using Nat.le_of_not_lt h)]
  have h2 : (List.replicate s false).getD n false = false := by
    by_cases h : n < s
    · rw [getD_in _ (by simpa using h), List.getElem_replicate]
    · rw [getD_out _ (by simpa using Nat.le_of_not_lt h)]
  unfold bt
  rw [h1, h2]
  exact Nat.zero_testBit _

/-- One bit set. -/
theorem IsP.set {B : List Bool} {L : List UInt8} (h : IsP B L) {n : Nat} (hn : n < B.length) {c : UInt8} (hc : c.toNat = (L.getD (n / 8) 0).toNat ||| 2 ^ (n % 8)) : IsP (B.set n true) (L.set (n / 8) c) := by
  refine ⟨by rw [List.length_set, List.length_set]; exact h.len, fun m => ?_⟩
  have hL : n / 8 < L.length := by rw [h.len]; exact at_need hn
  have hb := h.bit m
  unfold bt at hb ⊢
  rw [getD_set hn, getD_set hL]
  by_cases hm : m = n
  · subst hm
    rw [if_pos rfl, if_pos rfl, hc, Nat.testBit_or, Nat.testBit_two_pow_self, Bool.or_true]
  · rw [if_neg hm, ← hb]
    by_cases hd : m / 8 = n / 8
    · rw [if_pos hd, hc, Nat.testBit_or, Nat.testBit_two_pow_of_ne (by omega), Bool.or_false, hd]
    · rw [if_neg hd]

/-- Bits set, one by one. -/
def addB (B : List Bool) (l : List Nat) : List Bool := l.foldl (fun B n => B.set n true) B
theorem addB_len (l : List Nat) : ∀ B : List Bool, (addB B l).length = B.length := by
  induction l with
  | nil => intro B; rfl
  | cons n r ih => intro B; exact (ih (B.set n true)).trans List.length_set
theorem addB_snoc (B : List Bool) (l : List Nat) (n : Nat) : addB B (l ++ [n]) = (addB B l).set n true := by simp [addB]
theorem addB_nil (B : List Bool) : addB B [] = B := rfl
theorem addB_at (l : List Nat) : ∀ B : List Bool, (∀ n ∈ l, n < B.length) → ∀ m, (addB B l).getD m false = (B.getD m false || decide (m ∈ l)) := by
  induction l with
  | nil => intro B _ m; simp [addB]
  | cons n r ih =>
    intro B hl m
    have := ih (B.set n true) (fun k hk => by rw [List.length_set]; exact hl k (List.mem_cons_of_mem _ hk)) m
    refine this.trans ?_
    rw [getD_set (hl n (List.mem_cons_self ..))]
    by_cases h : m = n
    · subst h
      simp
    · simp [h]

/-- Whether all of some bits are set. -/
def mayB (B : List Bool) (l : List Nat) : Bool := l.all (fun n => B.getD n false)
theorem mayB_add {B : List Bool} {l : List Nat} (h : ∀ n ∈ l, n < B.length) : mayB (addB B l) l = true := by
  unfold mayB
  rw [List.all_eq_true]
  intro n hn
  rw [addB_at l B h, decide_eq_true hn, Bool.or_true]
theorem mayB_more {B : List Bool} {l k : List Nat} (h : ∀ n ∈ k, n < B.length) (hm : mayB B l = true) : mayB (addB B k) l = true := by
  unfold mayB at hm ⊢
  rw [List.all_eq_true] at hm ⊢
  intro n hn
  rw [addB_at k B h, hm n hn, Bool.true_or]

theorem mayB_no {B : List Bool} {l : List Nat} {j n : Nat} (hn : l[j]? = some n) (hb : B.getD n false = false) : mayB B l = false := by
  unfold mayB
  rw [List.all_eq_false]
  exact ⟨n, List.mem_of_getElem? hn, by rw [hb]; decide⟩
theorem mayB_succ {B : List Bool} {l : List Nat} {j n : Nat} (hm : mayB B (l.take j) = true) (hn : l[j]? = some n) (hb : B.getD n false = true) : mayB B (l.take (j + 1)) = true := by
  unfold mayB at hm ⊢
  rw [List.take_add_one, hn, List.all_append, hm]
  simp only [Option.toList_some, List.all_cons, List.all_nil, Bool.and_true, Bool.true_and]
  exact hb
theorem mayB_none {s : Nat} {l : List Nat} (h : 0 < l.length) : mayB (List.replicate s false) l = false := by
  cases l with
  | nil => simp at h
  | cons n r =>
    refine mayB_no (j := 0) (n := n) rfl ?_
    by_cases hn : n < s
    · rw [getD_in _ (by simpa using hn), List.getElem_replicate]
    · rw [getD_out _ (by simpa using Nat.le_of_not_lt hn)]

/-- How many bits are set, of the first n. -/
def cnt (f : Nat → Bool) : Nat → Nat
  | 0 => 0
  | n + 1 => cnt f n + (if f n then 1 else 0)
theorem cnt_congr {f g : Nat → Bool} : ∀ n, (∀ i, i < n → f i = g i) → cnt f n = cnt g n
  | 0, _ => rfl
  | n + 1, h => by rw [cnt, cnt, cnt_congr n (fun i hi => h i (by omega)), h n (by omega)]
theorem cnt_le (f : Nat → Bool) : ∀ n, cnt f n ≤ n
  | 0 => Nat.le_refl _
  | n + 1 => by have := cnt_le f n; rw [cnt]; split <;> omega
theorem cnt_more {f : Nat → Bool} {n : Nat} (h : ∀ i, n ≤ i → f i = false) : ∀ k, cnt f (n + k) = cnt f n
  | 0 => rfl
  | k + 1 => by
    rw [show n + (k + 1) = n + k + 1 by omega, cnt, cnt_more h k, h (n + k) (by omega)]
    rfl
theorem cnt_or {f g : Nat → Bool} {m : Nat} (h : ∀ i, g i = (f i || decide (i = m))) : ∀ n, cnt f n ≤ cnt g n ∧ cnt g n ≤ cnt f n + (if m < n then 1 else 0)
  | 0 => ⟨Nat.le_refl _, Nat.zero_le _⟩
  | n + 1 => by
    have := cnt_or h n
    rw [cnt, cnt, h n]
    by_cases hm : n = m
    · subst hm
      rw [if_neg (Nat.lt_irrefl _)] at this
      rw [if_pos (Nat.lt_succ_self _)]
      cases f n <;> simp <;> omega
    · have e : (if m < n + 1 then 1 else 0) = (if m < n then 1 else 0) := by
        by_cases h : m < n
        · rw [if_pos h, if_pos (by omega)]
        · rw [if_neg h, if_neg (by omega)]
      rw [e, decide_eq_false hm, Bool.or_false]
      omega

def fullB (B : List Bool) : Nat := cnt (fun n => B.getD n false) B.length
theorem fullB_none (s : Nat) : fullB (List.replicate s false) = 0 := by
  unfold fullB
  have : ∀ n, cnt (fun n => (List.replicate s false).getD n false) n = 0 := by
    intro n
    induction n with
    | zero => rfl
    | succ n ih =>
      rw [cnt, ih]
      have h2 : (List.replicate s false).getD n false = false := by
        by_cases h : n < s
        · rw [getD_in _ (by simpa using h), List.getElem_replicate]
        · rw [getD_out _ (by simpa using Nat.le_of_not_lt h)]
      rw [h2]
      rfl
  exact this _
theorem fullB_set {B : List Bool} {m : Nat} (hm : m < B.length) : fullB B ≤ fullB (B.set m true) ∧ fullB (B.set m true) ≤ fullB B + 1 := by
  unfold fullB
  rw [List.length_set]
  have := cnt_or (f := fun n => B.getD n false) (g := fun n => (B.set m true).getD n false) (m := m) (fun i => by
    show (B.set m true).getD i false = _
    rw [getD_set hm]
    by_cases h : i = m
    · subst h; simp
    · simp [h]) B.length
  rw [if_pos hm] at this
  exact this
theorem fullB_add (l : List Nat) : ∀ B : List Bool, (∀ n ∈ l, n < B.length) → fullB B ≤ fullB (addB B l) ∧ fullB (addB B l) ≤ fullB B + l.length := by
  induction l with
  | nil => intro B _; exact ⟨Nat.le_refl _, Nat.le_refl _⟩
  | cons n r ih =>
    intro B h
    have h1 := fullB_set (h n (List.mem_cons_self ..))
    have h2 := ih (B.set n true) (fun k hk => by rw [List.length_set]; exact h k (List.mem_cons_of_mem _ hk))
    show fullB B ≤ fullB (addB (B.set n true) r) ∧ fullB (addB (B.set n true) r) ≤ _
    rw [List.length_cons]
    omega
theorem fullB_le (B : List Bool) : fullB B ≤ B.length := cnt_le _ _

/-- How many bits of a byte are set. -/
def popN (c : Nat) : Nat := cnt c.testBit 8
theorem cnt_byte (L : List UInt8) (j : Nat) : cnt (bt L) (8 * (j + 1)) = cnt (bt L) (8 * j) + popN (L.getD j 0).toNat := by
  have e : ∀ i, i < 8 → bt L (8 * j + i) = (L.getD j 0).toNat.testBit i := by
    intro i hi
    unfold bt
    rw [show (8 * j + i) / 8 = j by omega, show (8 * j + i) % 8 = i by omega]
  rw [show 8 * (j + 1) = 8 * j + 7 + 1 by omega]
  unfold popN
  simp only [cnt]
  have e0 := e 0 (by decide)
  have e1 := e 1 (by decide)
  have e2 := e 2 (by decide)
  have e3 := e 3 (by decide)
  have e4 := e 4 (by decide)
  have e5 := e 5 (by decide)
  have e6 := e 6 (by decide)
  have e7 := e 7 (by decide)
  rw [Nat.add_zero] at e0
  rw [e0, e1, e2, e3, e4, e5, e6, e7]
  omega
theorem IsP.full {B : List Bool} {L : List UInt8} (h : IsP B L) : cnt (bt L) (8 * L.length) = fullB B := by
  have e : 8 * L.length = B.length + (8 * L.length - B.length) := by
    rw [h.len]
    have := need_le B.length
    omega
  rw [e, cnt_more]
  · exact cnt_congr _ (fun i _ => h.bit i)
  · intro i hi
    rw [h.bit, getD_out _ hi]

/-- Bits as bytes. -/
def byteN (B : List Bool) (j : Nat) : Nat → Nat
  | 0 => 0
  | i + 1 => byteN B j i + (if B.getD (8 * j + i) false then 2 ^ i else 0)
theorem byteN_lt (B : List Bool) (j : Nat) : ∀ i, byteN B j i < 2 ^ i
  | 0 => Nat.one_pos
  | i + 1 => by
    have := byteN_lt B j i
    rw [byteN, Nat.pow_succ]
    split <;> omega
theorem byteN_bit (B : List Bool) (j : Nat) : ∀ i n, (byteN B j i).testBit n = (decide (n < i) && B.getD (8 * j + n) false)
  | 0, n => by simp [byteN]
  | i + 1, n => by
    have hlt := byteN_lt B j i
    have ih := byteN_bit B j i n
    rw [byteN]
    rcases Nat.lt_trichotomy n i with hn | hn | hn
    · rw [decide_eq_true (show n < i + 1 by omega)]
      rw [decide_eq_true hn] at ih
      by_cases hb : B.getD (8 * j + i) false = true
      · rw [if_pos hb, Nat.add_comm, Nat.testBit_two_pow_add_gt hn, ih]
      · rw [if_neg hb, Nat.add_zero, ih]
    · subst hn
      rw [decide_eq_true (show n < n + 1 by omega), Bool.true_and]
      rw [decide_eq_false (Nat.lt_irrefl n), Bool.false_and] at ih
      by_cases hb : B.getD (8 * j + n) false = true
      · rw [if_pos hb, Nat.add_comm, Nat.testBit_two_pow_add_eq, ih, hb]
        rfl
      · rw [if_neg hb, Nat.add_zero, ih]
        simpa using hb
    · rw [decide_eq_false (show ¬ n < i + 1 by omega), Bool.false_and]
      apply Nat.testBit_lt_two_pow
      have h2 : 2 ^ i + 2 ^ i ≤ 2 ^ n := by
        have := Nat.pow_le_pow_right (n := 2) (by decide) (show i + 1 ≤ n by omega)
        rw [Nat.pow_succ] at this
        omega
      split <;> omega
def packB (B : List Bool) : List UInt8 := (List.range (need B.length)).map (fun j => UInt8.ofNat (byteN B j 8))
theorem packB_is (B : List Bool) : IsP B (packB B) := by
  refine ⟨by simp [packB], fun n => ?_⟩
  unfold bt packB
  by_cases h : n / 8 < need B.length
  · rw [getD_in _ (by simpa using h), List.getElem_map, List.getElem_range]
    have hlt := byteN_lt B (n / 8) 8
    rw [show (UInt8.ofNat (byteN B (n / 8) 8)).toNat = byteN B (n / 8) 8 by simp; omega, byteN_bit, decide_eq_true (Nat.mod_lt _ (by decide)), Bool.true_and, Nat.div_add_mod]
  · rw [getD_out _ (by simpa using Nat.le_of_not_lt h), getD_out _ (by unfold need at h; omega)]
    exact Nat.zero_testBit _
theorem IsP.is {B : List Bool} {L : List UInt8} (h : IsP B L) : L = packB B := h.uniq (packB_is B)

end Go.Proofs.YtgchdgdhjafdbaaDoor.Bo
