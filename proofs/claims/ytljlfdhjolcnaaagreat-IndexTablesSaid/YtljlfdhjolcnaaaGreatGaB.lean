import Derived.Test.YtljlfdhjolcnaaaGreatGaH
import Derived.Test.YtljlfdhjolcnaaaGreatGaK
import Derived.BigQuiet
import Derived.Test.YtljlfdhjolcnaaaGreatHeldz
/-
  bloom: bits of keys and of bytes, as plain numbers and lists.
-/
namespace Go.Proofs.YtljlfdhjolcnaaaGreat.Bo
open Hn

/-- The bits that a key asks for. -/
def bitN (s : Nat) (k : List UInt8) (i : Nat) : Nat := (moreN 1 k + i * moreN 1 (1 :: k)) % s
def bitsN (s q : Nat) (k : List UInt8) : List Nat := (List.range q).map (bitN s k)
theorem bitN_lt {s : Nat} (h : 0 < s) (k : List UInt8) (i : Nat) : bitN s k i < s := Nat.mod_lt _ h
theorem bitsN_len (s q : Nat) (k : List UInt8) : (bitsN s q k).length = q := by simp [bitsN]
theorem bitsN_succ (s q : Nat) (k : List UInt8) : bitsN s (q + 1) k = bitsN s q k ++ [bitN s k q] := by simp [bitsN, List.range_succ]
theorem bitsN_lt {s : Nat} (h : 0 < s) {q n : Nat} {k : List UInt8} (hn : n ∈ bitsN s q k) : n < s := by
  unfold bitsN at hn
  obtain ⟨i, _, rfl⟩ := List.mem_map.1 hn
  exact bitN_lt h k i

/-- How many bytes so many bits need. -/
def need (s : Nat) : Nat := (s + 7) / 8
/-- The bit n of bytes. -/
def bt (L : List UInt8) (n : Nat) : Bool := (L.getD (n / 8) 0).toNat.testBit (n % 8)

/-- Bytes that are these bits. -/
structure IsP (B : List Bool) (L : List UInt8) : Prop where
  len : L.length = need B.length
  bit : ∀ n, bt L n = B.getD n false

theorem getD_in {α : Type} {l : List α} {i : Nat} (d : α) (h : i < l.length) : l.getD i d = l[i] := by simp [List.getD_eq_getElem?_getD, h]
theorem getD_out {α : Type} {l : List α} {i : Nat} (d : α) (h : l.length ≤ i) : l.getD i d = d := by simp [List.getD_eq_getElem?_getD, h]
theorem byte_eq {a b : UInt8} (h : ∀ i, i < 8 → a.toNat.testBit i = b.toNat.testBit i) : a = b := by
  apply UInt8.toNat.inj
  apply Nat.eq_of_testBit_eq
  intro i
  by_cases hi : i < 8
  · exact h i hi
  · have ha : a.toNat < 2 ^ i := Nat.lt_of_lt_of_le a.toNat_lt (Nat.pow_le_pow_right (by decide) (by omega))
    have hb : b.toNat < 2 ^ i := Nat.lt_of_lt_of_le b.toNat_lt (Nat.pow_le_pow_right (by decide) (by omega))
    rw [Nat.testBit_lt_two_pow ha, Nat.testBit_lt_two_pow hb]
theorem eq_of_bt {L M : List UInt8} (hl : L.length = M.length) (h : ∀ n, bt L n = bt M n) : L = M := by
  apply List.ext_getElem hl
  intro j h1 h2
  apply byte_eq
  intro i hi
  have := h (8 * j + i)
  unfold bt at this
  rw [show (8 * j + i) / 8 = j by omega, show (8 * j + i) % 8 = i by omega, getD_in _ h1, getD_in _ h2] at this
  exact this
theorem IsP.uniq {B : List Bool} {L M : List UInt8} (h : IsP B L) (h' : IsP B M) : L = M :=
  eq_of_bt (h.len.trans h'.len.symm) (fun n => (h.bit n).trans (h'.bit n).symm)
theorem bits_eq {B C : List Bool} (hl : B.length = C.length) (h : ∀ n, B.getD n false = C.getD n false) : B = C := by
  apply List.ext_getElem hl
  intro j h1 h2
  have := h j
  rwa [getD_in _ h1, getD_in _ h2] at this
theorem IsP.back {B C : List Bool} {L : List UInt8} (hl : B.length = C.length) (h : IsP B L) (h' : IsP C L) : B = C :=
  bits_eq hl (fun n => (h.bit n).symm.trans (h'.bit n))
theorem at_need {s n : Nat} (h : n < s) : n / 8 < need s := by unfold need; omega

theorem getD_set {α : Type} {l : List α} {i j : Nat} {a d : α} (hi : i < l.length) : (l.set i a).getD j d = if j = i then a else l.getD j d := by
  by_cases h : j = i
  · subst h
    rw [if_pos rfl, getD_in _ (by rw [List.length_set]; exact hi), List.getElem_set_self]
  · rw [if_neg h]
    simp only [List.getD_eq_getElem?_getD, List.getElem?_set_ne (fun e => h e.symm)]

/-- No bit is set. -/
theorem IsP.none (s : Nat) : IsP (List.replicate s false) (List.replicate (need s) 0) := by
  refine ⟨by simp, fun n => ?_⟩
  have h1 : (List.replicate (need s) (0 : UInt8)).getD (n / 8) 0 = 0 := by
    by_cases h : n / 8 < need s
    · rw [getD_in _ (by simpa using h), List.getElem_replicate]
    · rw [getD_out _ (by simpa using Nat.le_of_not_lt h)]
  have h2 : (List.replicate s false).getD n false = false := by
    by_cases h : n < s
    · rw [getD_in _ (by simpa using h), List.getElem_replicate]
    · rw [getD_out _ (by simpa using Nat.le_of_not_lt h)]
  unfold bt
  rw [h1, h2]
  exact Nat.zero_testBit _

/-- One bit set. -/
theorem IsP.set {B : List Bool} {L : List UInt8} (h : IsP B L) {n : Nat} (hn : n < B.length) {c : UInt8} (hc : c.toNat = (L.getD (n / 8) 0).toNat ||| 2 ^ (n % 8)) : IsP (B.set n true) (L.set (n / 8) c) := by
  refine ⟨by rw [List.length_set, List.length_set]; exact h.len, fun m => ?_⟩
  have hL : n / 8 < L.length := by rw [h.len]; exact at_need hn
  have hb := h.bit m
  unfold bt at hb ⊢
  rw [getD_set hn, getD_set hL]
  by_cases hm : m = n
  · subst hm
    rw [if_pos rfl, if_pos rfl, hc, Nat.testBit_or, Nat.testBit_two_pow_self, Bool.or_true]
  · rw [if_neg hm, ← hb]
    by_cases hd : m / 8 = n / 8
    · rw [if_pos hd, hc, Nat.testBit_or, Nat.testBit_two_pow_of_ne (by omega), Bool.or_false, hd]
    · rw [if_neg hd]

/-- Bits set, one by one. -/
def addB (B : List Bool) (l : List Nat) : List Bool := l.foldl (fun B n => B.set n true) B
theorem addB_len (l : List Nat) : ∀ B : List Bool, (addB B l).length = B.length := by
  induction l with
  | nil => intro B; rfl
  | cons n r ih => intro B; exact (ih (B.set n true)).trans List.length_set
theorem addB_snoc (B : List Bool) (l : List Nat) (n : Nat) : addB B (l ++ [n]) = (addB B l).set n true := by simp [addB]
theorem addB_at (l : List Nat) : ∀ B : List Bool, (∀ n ∈ l, n < B.length) → ∀ m, (addB B l).getD m false = (B.getD m false || decide (m ∈ l)) := by
  induction l with
  | nil => intro B _ m; simp [addB]
  | cons n r ih =>
    intro B hl m
    have := ih (B.set n true) (fun k hk => by rw [List.length_set]; exact hl k (List.mem_cons_of_mem _ hk)) m
    refine this.trans ?_
    rw [getD_set (hl n (List.mem_cons_self ..))]
    by_cases h : m = n
    · subst h
      simp
    · simp [h]

/-- Whether all of some bits are set. -/
def mayB (B : List Bool) (l : List Nat) : Bool := l.all (fun n => B.getD n false)
theorem mayB_no {B : List Bool} {l : List Nat} {j n : Nat} (hn : l[j]? = some n) (hb : B.getD n false = false) : mayB B l = false := by
  unfold mayB
  rw [List.all_eq_false]
  exact ⟨n, List.mem_of_getElem? hn, by rw [hb]; decide⟩
theorem mayB_succ {B : List Bool} {l : List Nat} {j n : Nat} (hm : mayB B (l.take j) = true) (hn : l[j]? = some n) (hb : B.getD n false = true) : mayB B (l.take (j + 1)) = true := by
  unfold mayB at hm ⊢
  rw [List.take_add_one, hn, List.all_append, hm]
  simp only [Option.toList_some, List.all_cons, List.all_nil, Bool.and_true, Bool.true_and]
  exact hb
/-- How many bits are set, of the first n. -/
def cnt (f : Nat → Bool) : Nat → Nat
  | 0 => 0
  | n + 1 => cnt f n + (if f n then 1 else 0)
theorem cnt_le (f : Nat → Bool) : ∀ n, cnt f n ≤ n
  | 0 => Nat.le_refl _
  | n + 1 => by have := cnt_le f n; rw [cnt]; split <;> omega
def fullB (B : List Bool) : Nat := cnt (fun n => B.getD n false) B.length
/-- Bits as bytes. -/
def byteN (B : List Bool) (j : Nat) : Nat → Nat
  | 0 => 0
  | i + 1 => byteN B j i + (if B.getD (8 * j + i) false then 2 ^ i else 0)
theorem byteN_lt (B : List Bool) (j : Nat) : ∀ i, byteN B j i < 2 ^ i
  | 0 => Nat.one_pos
  | i + 1 => by
    have := byteN_lt B j i
    rw [byteN, Nat.pow_succ]
    split <;> omega
theorem byteN_bit (B : List Bool) (j : Nat) : ∀ i n, (byteN B j i).testBit n = (decide (n < i) && B.getD (8 * j + n) false)
  | 0, n => by simp [byteN]
  | i + 1, n => by
    have hlt := byteN_lt B j i
    have ih := byteN_bit B j i n
    rw [byteN]
    rcases Nat.lt_trichotomy n i with hn | hn | hn
    · rw [decide_eq_true (show n < i + 1 by omega)]
      rw [decide_eq_true hn] at ih
      by_cases hb : B.getD (8 * j + i) false = true
      · rw [if_pos hb, Nat.add_comm, Nat.testBit_two_pow_add_gt hn, ih]
      · rw [if_neg hb, Nat.add_zero, ih]
    · subst hn
      rw [decide_eq_true (show n < n + 1 by omega), Bool.true_and]
      rw [decide_eq_false (Nat.lt_irrefl n), Bool.false_and] at ih
      by_cases hb : B.getD (8 * j + n) false = true
      · rw [if_pos hb, Nat.add_comm, Nat.testBit_two_pow_add_eq, ih, hb]
        rfl
      · rw [if_neg hb, Nat.add_zero, ih]
        simpa using hb
    · rw [decide_eq_false (show ¬ n < i + 1 by omega), Bool.false_and]
      apply Nat.testBit_lt_two_pow
      have h2 : 2 ^ i + 2 ^ i ≤ 2 ^ n := by
        have := Nat.pow_le_pow_right (n := 2) (by decide) (show i + 1 ≤ n by omega)
        rw [Nat.pow_succ] at this
        omega
      split <;> omega
def packB (B : List Bool) : List UInt8 := (List.range (need B.length)).map (fun j => UInt8.ofNat (byteN B j 8))
theorem packB_is (B : List Bool) : IsP B (packB B) := by
  refine ⟨by simp [packB], fun n => ?_⟩
  unfold bt packB
  by_cases h : n / 8 < need B.length
  · rw [getD_in _ (by simpa using h), List.getElem_map, List.getElem_range]
    have hlt := byteN_lt B (n / 8) 8
    rw [show (UInt8.ofNat (byteN B (n / 8) 8)).toNat = byteN B (n / 8) 8 by simp; omega, byteN_bit, decide_eq_true (Nat.mod_lt _ (by decide)), Bool.true_and, Nat.div_add_mod]
  · rw [getD_out _ (by simpa using Nat.le_of_not_lt h), getD_out _ (by unfold need at h; omega)]
    exact Nat.zero_testBit _
theorem IsP.is {B : List Bool} {L : List UInt8} (h : IsP B L) : L = packB B := h.uniq (packB_is B)

end Go.Proofs.YtljlfdhjolcnaaaGreat.Bo

/-
  bloom: rows of one's own in memory: bytes, ints, truths; made, read, set; a filter in memory.
-/
namespace Go.Proofs.YtljlfdhjolcnaaaGreat.Bo
open Go.RowKit Pk
set_option maxRecDepth 100000

section
variable {ty : TypeId} {base n : Nat} {w w' : World} {v : Value} {xs : List Value}
theorem row_stay {X : Nat → Prop} (h : w.ownsRow base ty 1 v n xs) (hs : Stay X w w') (hx : ∀ k, v.ownBlock = some k → ¬ X k) : w'.ownsRow base ty 1 v n xs := by
  refine ⟨h.1, ?_⟩
  rcases h.2 with h' | ⟨g, cap, cur, rfl, h4, hg, r⟩
  · exact .inl h'
  · exact .inr ⟨g, cap, cur, rfl, h4, (hs.block g (Array.getElem?_eq_some_iff.1 hg).1 (hx g rfl)).trans hg, r⟩
theorem row_base {base' : Nat} (h : w.ownsRow base ty 1 v n xs) (hb : ∀ k, v.ownBlock = some k → base' ≤ k) : w.ownsRow base' ty 1 v n xs := by
  refine ⟨h.1, ?_⟩
  rcases h.2 with h' | ⟨g, cap, cur, rfl, h4, hg, r⟩
  · exact .inl h'
  · exact .inr ⟨g, cap, cur, rfl, hb g rfl, hg, r⟩
theorem row_form (h : w.ownsRow base ty 1 v n xs) : ∃ a c, v = .slice a n c := by
  rcases h.2 with ⟨rfl, rfl⟩ | ⟨g, cap, cur, rfl, _⟩
  · exact ⟨_, _, rfl⟩
  · exact ⟨_, _, rfl⟩
theorem row_at (h : w.ownsRow base ty 1 v n xs) (h0 : 0 < n) : ∃ g c, v = .slice (some ⟨g, 0, none⟩) n c ∧ base ≤ g ∧ g < w.heap.size := by
  rcases h.2 with ⟨rfl, rfl⟩ | ⟨g, cap, cur, rfl, h4, hg, r⟩
  · omega
  · exact ⟨g, cap, rfl, h4, (Array.getElem?_eq_some_iff.1 hg).1⟩
theorem row_cell {g c : Nat} (h : w.ownsRow base ty 1 (.slice (some ⟨g, 0, none⟩) n c) n xs) {j : Nat} {u : Value} (hu : xs[j]? = some u) : w.cell? ⟨g, j, none⟩ = some u := by
  have := World.ownsRow.cells (g := g) h rfl j u hu
  rwa [add_at, Nat.zero_add] at this
theorem row_fr {g c : Nat} (h : w.ownsRow base ty 1 (.slice (some ⟨g, 0, none⟩) n c) n xs) (j : Nat) : w.frozen? ⟨g, j, none⟩ = false := by
  rcases h.2 with ⟨e, _⟩ | ⟨g', cap, cur, e, h4, hg, r⟩
  · cases e
  · cases e
    exact frozen_of_row w g j _ _ hg
theorem row_set {g c : Nat} (h : w.ownsRow base ty 1 (.slice (some ⟨g, 0, none⟩) n c) n xs) (j : Nat) (u : Value) : (w.setCell ⟨g, j, none⟩ u).ownsRow base ty 1 (.slice (some ⟨g, 0, none⟩) n c) n (xs.set j u) := by
  refine ⟨by rw [List.length_set]; exact h.1, ?_⟩
  rcases h.2 with ⟨e, _⟩ | ⟨g', cap, cur, e, h4, hg, h5, h6, h7, h8⟩
  · cases e
  · cases e
    refine .inr ⟨g, c, cur.setIfInBounds j u, rfl, h4, heap_setCell_same w g j _ _ _ hg, h5, h6, by simpa using h7, ?_⟩
    rw [← h8]
    simp [List.take_set]
theorem row_made (w : World) (ty : TypeId) (xs : List Value) (hl : xs.length ≤ maxLen) : (w.alloc (.cells xs.toArray ty)).ownsRow w.heap.size ty 1 (.slice (some ⟨w.heap.size, 0, none⟩) xs.length xs.length) xs.length xs :=
  ⟨by simp, .inr ⟨w.heap.size, xs.length, xs.toArray, rfl, Nat.le_refl _, heap_alloc_new w _, Nat.le_refl _, hl, by simp, by simp⟩⟩
end

def cellsI (L : List Nat) : List Value := L.map (fun n : Nat => Value.int .i64 (n : Int))
def cellsT (B : List Bool) : List Value := B.map .bool
theorem len_I (L : List Nat) : (cellsI L).length = L.length := by simp [cellsI]
theorem at_I {L : List Nat} {j n : Nat} (h : L[j]? = some n) : (cellsI L)[j]? = some (.int .i64 (n : Int)) := by simp [cellsI, h]
theorem at_T {B : List Bool} {j : Nat} {b : Bool} (h : B[j]? = some b) : (cellsT B)[j]? = some (.bool b) := by simp [cellsT, h]
/-- Ints, truths of one's own. -/
def IO (base : Nat) (w : World) (v : Value) (L : List Nat) : Prop := w.ownsRow base 3 1 v L.length (cellsI L)
def TO (base : Nat) (w : World) (v : Value) (B : List Bool) : Prop := w.ownsRow base 4 1 v B.length (cellsT B)

section
variable {base : Nat} {w w' : World} {v : Value} {L : List Nat} {B : List Bool} {X : Nat → Prop}
theorem IO.stay (h : IO base w v L) (hs : Stay X w w') (hx : ∀ k, v.ownBlock = some k → ¬ X k) : IO base w' v L := row_stay h hs hx
theorem IO.stay0 (h : IO base w v L) (hs : Stay (fun _ => False) w w') : IO base w' v L := row_stay h hs (fun _ _ x => x)
theorem IO.lt (h : IO base w v L) : ∀ k, v.ownBlock = some k → base ≤ k ∧ k < w.heap.size := World.ownsRow.lt h
theorem IO.form (h : IO base w v L) : ∃ a c, v = .slice a L.length c := row_form h
theorem IO.at (h : IO base w v L) (h0 : 0 < L.length) : ∃ g c, v = .slice (some ⟨g, 0, none⟩) L.length c ∧ base ≤ g ∧ g < w.heap.size := row_at h h0
theorem IO.cell {g c : Nat} (h : IO base w (.slice (some ⟨g, 0, none⟩) L.length c) L) {j n : Nat} (hj : L[j]? = some n) : w.cell? ⟨g, j, none⟩ = some (.int .i64 (n : Int)) := row_cell h (at_I hj)
theorem IO.nil (base : Nat) (w : World) : IO base w (.slice none 0 0) [] := World.ownsRow_nil w base _ _
theorem TO.stay (h : TO base w v B) (hs : Stay X w w') (hx : ∀ k, v.ownBlock = some k → ¬ X k) : TO base w' v B := row_stay h hs hx
theorem TO.stay0 (h : TO base w v B) (hs : Stay (fun _ => False) w w') : TO base w' v B := row_stay h hs (fun _ _ x => x)
theorem TO.lt (h : TO base w v B) : ∀ k, v.ownBlock = some k → base ≤ k ∧ k < w.heap.size := World.ownsRow.lt h
theorem TO.form (h : TO base w v B) : ∃ a c, v = .slice a B.length c := row_form h
theorem TO.at (h : TO base w v B) (h0 : 0 < B.length) : ∃ g c, v = .slice (some ⟨g, 0, none⟩) B.length c ∧ base ≤ g ∧ g < w.heap.size := row_at h h0
theorem TO.cell {g c : Nat} (h : TO base w (.slice (some ⟨g, 0, none⟩) B.length c) B) {j : Nat} {b : Bool} (hj : B[j]? = some b) : w.cell? ⟨g, j, none⟩ = some (.bool b) := row_cell h (at_T hj)
theorem TO.nil (base : Nat) (w : World) : TO base w (.slice none 0 0) [] := World.ownsRow_nil w base _ _
theorem TO.base' {base' : Nat} (h : TO base w v B) (hb : ∀ k, v.ownBlock = some k → base' ≤ k) : TO base' w v B := row_base h hb
end
theorem IO.cell' {base : Nat} {w : World} {L : List Nat} {g m c : Nat} (hm : m = L.length) (h : IO base w (.slice (some ⟨g, 0, none⟩) m c) L) {j n : Nat} (hj : L[j]? = some n) : w.cell? ⟨g, j, none⟩ = some (.int .i64 (n : Int)) := by subst hm; exact IO.cell h hj
theorem IO.fr {base : Nat} {w : World} {L : List Nat} {g m c : Nat} (hm : m = L.length) (h : IO base w (.slice (some ⟨g, 0, none⟩) m c) L) (j : Nat) : w.frozen? ⟨g, j, none⟩ = false := by subst hm; exact row_fr h j
theorem TO.cell' {base : Nat} {w : World} {B : List Bool} {g m c : Nat} (hm : m = B.length) (h : TO base w (.slice (some ⟨g, 0, none⟩) m c) B) {j : Nat} {b : Bool} (hj : B[j]? = some b) : w.cell? ⟨g, j, none⟩ = some (.bool b) := by subst hm; exact TO.cell h hj
theorem TO.fr {base : Nat} {w : World} {B : List Bool} {g m c : Nat} (hm : m = B.length) (h : TO base w (.slice (some ⟨g, 0, none⟩) m c) B) (j : Nat) : w.frozen? ⟨g, j, none⟩ = false := by subst hm; exact row_fr h j
theorem owns_cell' {base : Nat} {w : World} {l : List UInt8} {g m c : Nat} (hm : m = l.length) (h : Owns base w (.slice (some ⟨g, 0, none⟩) m c) l) {j : Nat} {b : UInt8} (hj : l[j]? = some b) : w.cell? ⟨g, j, none⟩ = some (byteV b) := by subst hm; exact row_cell h (by simp [cellsB, hj])
theorem owns_fr {base : Nat} {w : World} {l : List UInt8} {g m c : Nat} (hm : m = l.length) (h : Owns base w (.slice (some ⟨g, 0, none⟩) m c) l) (j : Nat) : w.frozen? ⟨g, j, none⟩ = false := by subst hm; exact row_fr h j
theorem IO.set {base : Nat} {w : World} {L : List Nat} {g m c : Nat} (hm : m = L.length) (h : IO base w (.slice (some ⟨g, 0, none⟩) m c) L) (j n : Nat) : IO base (w.setCell ⟨g, j, none⟩ (.int .i64 (n : Int))) (.slice (some ⟨g, 0, none⟩) m c) (L.set j n) := by
  subst hm
  have := row_set h j (.int .i64 (n : Int))
  unfold IO
  rw [List.length_set]
  have e : cellsI (L.set j n) = (cellsI L).set j (.int .i64 (n : Int)) := by simp [cellsI, List.map_set]
  rw [e]
  exact this
theorem TO.set {base : Nat} {w : World} {B : List Bool} {g m c : Nat} (hm : m = B.length) (h : TO base w (.slice (some ⟨g, 0, none⟩) m c) B) (j : Nat) (b : Bool) : TO base (w.setCell ⟨g, j, none⟩ (.bool b)) (.slice (some ⟨g, 0, none⟩) m c) (B.set j b) := by
  subst hm
  have := row_set h j (.bool b)
  unfold TO
  rw [List.length_set]
  have e : cellsT (B.set j b) = (cellsT B).set j (.bool b) := by simp [cellsT, List.map_set]
  rw [e]
  exact this
theorem owns_set {base : Nat} {w : World} {l : List UInt8} {g m c : Nat} (hm : m = l.length) (h : Owns base w (.slice (some ⟨g, 0, none⟩) m c) l) (j : Nat) (b : UInt8) : Owns base (w.setCell ⟨g, j, none⟩ (byteV b)) (.slice (some ⟨g, 0, none⟩) m c) (l.set j b) := by
  subst hm
  have := row_set h j (byteV b)
  unfold Owns
  rw [List.length_set]
  have e : cellsB (l.set j b) = (cellsB l).set j (byteV b) := by simp [cellsB, List.map_set]
  rw [e]
  exact this

theorem infoI : (Tryz.prog.info? 3).map (fun i => (i.zero, i.size, i.bytes)) = some (some (.int .i64 0), 1, 8) := by kernel_rfl
theorem made_one (z : Value) (hz : z.cells = #[z]) (n : Nat) : madeCells z.cells n = (List.replicate n z).toArray := by
  unfold madeCells
  rw [hz]
  apply Array.ext
  · simp
  · intro i h1 h2
    simp [Nat.mod_one]
theorem run_make_u8 (w : World) (n : Nat) (hn : n ≤ 4294967296) : (Instr.makeSlice 56 (.int .i64 (n : Int)) (.int .i64 (n : Int))).run Tryz.prog w = .ok (.slice (some ⟨w.heap.size, 0, none⟩) n n) (w.alloc (.cells (cellsB (List.replicate n 0)).toArray 5)) := by
  obtain ⟨i0, hi, hz0, hz1, hz2⟩ := info_parts info5
  have hm := run_make (P := Tryz.prog) w 56 5 i0 (.int .u8 0) Tryz.underlying56 hi hz0 .i64 .i64 n n (by omega) (Int.le_refl _) (by rw [hz2]; omega) (by omega)
  rw [hz1, Int.toNat_natCast, Nat.mul_one, made_one _ rfl] at hm
  rw [show cellsB (List.replicate n 0) = List.replicate n (.int .u8 0) by simp [cellsB, byteV]]
  exact hm
theorem run_make_int (w : World) (n : Nat) (hn : n ≤ 4294967296) : (Instr.makeSlice 54 (.int .i64 (n : Int)) (.int .i64 (n : Int))).run Tryz.prog w = .ok (.slice (some ⟨w.heap.size, 0, none⟩) n n) (w.alloc (.cells (cellsI (List.replicate n 0)).toArray 3)) := by
  obtain ⟨i0, hi, hz0, hz1, hz2⟩ := info_parts infoI
  have hm := run_make (P := Tryz.prog) w 54 3 i0 (.int .i64 0) Tryz.underlying54 hi hz0 .i64 .i64 n n (by omega) (Int.le_refl _) (by rw [hz2]; omega) (by omega)
  rw [hz1, Int.toNat_natCast, Nat.mul_one, made_one _ rfl] at hm
  rw [show cellsI (List.replicate n 0) = List.replicate n (.int .i64 0) by simp [cellsI]]
  exact hm
section
variable {ops : Array Oper} {rest : List Oper} {o : Oper} {a : Act} {w : World} {Q : Exit → Act → World → Prop}
theorem make_u8 (hgd : o.guard = none) (x y : Operand) (ho : o.op = .makeSlice 56 x y) (n : Nat) (hx : a.eval x = .int .i64 (n : Int)) (hy : a.eval y = .int .i64 (n : Int)) (hn : n ≤ 4294967296)
    (h : ∀ w1, Owns w.heap.size w1 (.slice (some ⟨w.heap.size, 0, none⟩) n n) (List.replicate n 0) → Stay (fun _ => False) w w1 → w1.heap.size = w.heap.size + 1 → wpList Tryz.prog ops Q rest (a.put o.dst (.slice (some ⟨w.heap.size, 0, none⟩) n n)) w1) : wpList Tryz.prog ops Q (o :: rest) a w :=
  wpList_plain hgd fun _ hK => by
    unfold Oper.wp execOp
    simp only [ho, hx, hy, Sem.run_bind, Sem.run_pure, run_make_u8 w n hn, Result.andThen_ok]
    refine hK _ _ (h _ ?_ (Stay.alloc _ _) (by simp))
    have := row_made w 5 (cellsB (List.replicate n 0)) (by rw [length_cellsB]; unfold maxLen; simp; omega)
    rw [length_cellsB] at this
    unfold Owns
    rw [List.length_replicate] at this ⊢
    exact this
theorem make_int (hgd : o.guard = none) (x y : Operand) (ho : o.op = .makeSlice 54 x y) (n : Nat) (hx : a.eval x = .int .i64 (n : Int)) (hy : a.eval y = .int .i64 (n : Int)) (hn : n ≤ 4294967296)
    (h : ∀ w1, IO w.heap.size w1 (.slice (some ⟨w.heap.size, 0, none⟩) n n) (List.replicate n 0) → Stay (fun _ => False) w w1 → w1.heap.size = w.heap.size + 1 → wpList Tryz.prog ops Q rest (a.put o.dst (.slice (some ⟨w.heap.size, 0, none⟩) n n)) w1) : wpList Tryz.prog ops Q (o :: rest) a w :=
  wpList_plain hgd fun _ hK => by
    unfold Oper.wp execOp
    simp only [ho, hx, hy, Sem.run_bind, Sem.run_pure, run_make_int w n hn, Result.andThen_ok]
    refine hK _ _ (h _ ?_ (Stay.alloc _ _) (by simp))
    have := row_made w 3 (cellsI (List.replicate n 0)) (by rw [len_I]; unfold maxLen; simp; omega)
    rw [len_I] at this
    unfold IO
    rw [List.length_replicate] at this ⊢
    exact this
end

/-- A filter in memory: its struct, and the block of its bits. -/
structure FAt (w : World) (p g q : Nat) (B : List Bool) : Prop where
  lo : 1 ≤ B.length
  hi : B.length ≤ 1048576
  qlo : 1 ≤ q
  qhi : q ≤ 16
  ne : p ≠ g
  mem : ∃ n c, n = need B.length ∧ w.heap[p]? = some (.cells #[.int .i64 (B.length : Int), .int .i64 (q : Int), .slice (some ⟨g, 0, none⟩) n c] 237 (0, 0)) ∧ Owns 0 w (.slice (some ⟨g, 0, none⟩) n c) (packB B)
section
variable {w w' : World} {p g q : Nat} {B : List Bool} {X : Nat → Prop}
theorem FAt.stay (h : FAt w p g q B) (hs : Stay X w w') (hp : ¬ X p) (hg : ¬ X g) : FAt w' p g q B := by
  obtain ⟨h1, h2, h3, h4, h5, n, c, hn, h6, h7⟩ := h
  exact ⟨h1, h2, h3, h4, h5, n, c, hn, (hs.block p (lt_of_block h6) hp).trans h6, h7.stay hs (fun k hk => by cases hk; exact hg)⟩
theorem FAt.stay0 (h : FAt w p g q B) (hs : Stay (fun _ => False) w w') : FAt w' p g q B := h.stay hs (fun x => x) (fun x => x)
theorem FAt.plt (h : FAt w p g q B) : p < w.heap.size := by
  obtain ⟨_, _, _, _, _, n, c, hn, h6, h7⟩ := h
  exact lt_of_block h6
theorem FAt.glt (h : FAt w p g q B) : g < w.heap.size := by
  obtain ⟨_, _, _, _, _, n, c, hn, h6, h7⟩ := h
  exact (h7.lt g rfl).2
end
theorem len_pack (B : List Bool) : (packB B).length = need B.length := (packB_is B).len
end Go.Proofs.YtljlfdhjolcnaaaGreat.Bo

/-
  bloom: New; the bits of a key.
-/
namespace Go.Proofs.YtljlfdhjolcnaaaGreat.Bo
open Go.RowKit Pk
set_option maxRecDepth 100000

theorem bytesFor_any (s : Nat) (w : World) (hs : s ≤ 1048576) : Calls Tryz.prog 157 #[.int .i64 s] w fun e w' => e = .returned (.int .i64 (need s : Nat)) ∧ w = w' := by
  go_enter Tryz.func157, Tryz.ntmps157
  go_wp2
  go_ret
  exact ⟨by unfold need; congr 1, rfl⟩

theorem new_bad (s q : Int) (w : World) (h1 : -9223372036854775808 ≤ s) (h2 : s ≤ 9223372036854775807) (h3 : -9223372036854775808 ≤ q) (h4 : q ≤ 9223372036854775807) (hb : s < 1 ∨ 1048576 < s ∨ q < 1 ∨ 16 < q) :
    Calls Tryz.prog 133 #[.int .i64 s, .int .i64 q] w fun e w' => e = .returned (.tuple #[.pointer none, Hn.errI 1]) ∧ w = w' := by
  by_cases c1 : s < 1
  · go_enter Tryz.func133, Tryz.ntmps133
    go_wp2
    go_ret2
    exact ⟨rfl, rfl⟩
  · by_cases c2 : 1048576 < s
    · go_enter Tryz.func133, Tryz.ntmps133
      go_wp2
      go_ret2
      exact ⟨rfl, rfl⟩
    · by_cases c3 : q < 1
      · clear hb
        go_enter Tryz.func133, Tryz.ntmps133
        go_wp2
        go_ret2
        exact ⟨rfl, rfl⟩
      · have c4 : 16 < q := by omega
        clear hb
        go_enter Tryz.func133, Tryz.ntmps133
        go_wp2
        go_ret2
        exact ⟨rfl, rfl⟩

theorem pack_none (s : Nat) : packB (List.replicate s false) = List.replicate (need s) 0 := ((IsP.none s).uniq (packB_is _)).symm
set_option maxHeartbeats 1000000 in
theorem new_any (s q : Nat) (w : World) (h1 : 1 ≤ s) (h2 : s ≤ 1048576) (h3 : 1 ≤ q) (h4 : q ≤ 16) :
    Calls Tryz.prog 133 #[.int .i64 s, .int .i64 q] w fun e w' => ∃ p g, e = .returned (.tuple #[.pointer (some ⟨p, 0, none⟩), .nilIface]) ∧ w.heap.size ≤ p ∧ w.heap.size ≤ g ∧ FAt w' p g q (List.replicate s false) ∧ Stay (fun _ => False) w w' := by
  go_enter Tryz.func133, Tryz.ntmps133
  go_wp2_with fail
  refine (bytesFor_any s w h2).mono ?_
  rintro e w' ⟨rfl, rfl⟩
  have hn : need s ≤ 4294967296 := by unfold need; omega
  obtain ⟨n, hN⟩ : ∃ n, n = need s := ⟨_, rfl⟩
  rw [← hN] at hn ⊢
  have HN := Lib.hid hN
  clear hN
  go_wp2_with (with_reducible refine make_u8 rfl (.tmp 24) (.tmp 24) rfl n rfl rfl hn ?_; intro w1 ho1 hs1 hz1; have HO := Lib.hid ho1; have HS := Lib.hid hs1; clear ho1 hs1)
  go_ret2
  refine ⟨w.heap.size + 1, w.heap.size, rfl, by omega, Nat.le_refl _, ⟨by simpa using h1, by simpa using h2, h3, h4, by omega, n, n, by rw [List.length_replicate, HN.out], ?_, ?_⟩, HS.out.trans (Stay.alloc _ _)⟩
  · rw [List.length_replicate]
    have := heap_alloc_new w1 (.cells #[.int .i64 (s : Int), .int .i64 (q : Int), .slice (some ⟨w.heap.size, 0, none⟩) n n] 237)
    rw [hz1] at this
    exact this
  · rw [pack_none, ← HN.out]
    exact (HO.out.stay0 (Stay.alloc _ _)).base (fun k _ => Nat.zero_le k)

end Go.Proofs.YtljlfdhjolcnaaaGreat.Bo

/-
  bloom: the bits of a key.
-/
namespace Go.Proofs.YtljlfdhjolcnaaaGreat.Bo
open Go.RowKit Pk
set_option maxRecDepth 100000

theorem conv_key (w : World) (b : List UInt8) (hb : b.length ≤ 140737488355328) : ∃ cap w', (convert 9 56 (.string ⟨b.toArray⟩)).run Tryz.prog w = .ok (.slice (some ⟨w.heap.size, 0, none⟩) b.length cap) w' ∧ Slc w' (.slice (some ⟨w.heap.size, 0, none⟩) b.length cap) b ∧ Stay (fun _ => False) w w' ∧ w.heap.size < w'.heap.size := conv_txt w b hb

theorem key_one (k : List UInt8) : ({ data := #[1] } ++ { data := k.toArray } : ByteArray) = { data := (1 :: k).toArray } := by
  apply ByteArray.ext
  simp [ByteArray.data_append]

theorem wrap_small (x : Int) (h0 : 0 ≤ x) (h1 : x ≤ 4611686018427387904) : wrap64 x = x := by
  unfold wrap64
  omega
theorem len_mid {m q j : Nat} {k : List UInt8} (hj : j ≤ q) : (bitsN m j k ++ List.replicate (q - j) 0).length = q := by rw [List.length_append, bitsN_len, List.length_replicate]; omega
theorem at_mid {m q j : Nat} {k : List UInt8} (hj : j < q) : (bitsN m j k ++ List.replicate (q - j) 0)[j]? = some 0 := by
  rw [List.getElem?_append_right (by rw [bitsN_len]; exact Nat.le_refl _), bitsN_len, Nat.sub_self, List.getElem?_replicate, if_pos (by omega)]
theorem set_mid {m q j : Nat} {k : List UInt8} (hj : j < q) : (bitsN m j k ++ List.replicate (q - j) 0).set j (bitN m k j) = bitsN m (j + 1) k ++ List.replicate (q - (j + 1)) 0 := by
  rw [List.set_append_right _ _ (by rw [bitsN_len]; exact Nat.le_refl _), bitsN_len, bitsN_succ, Nat.sub_self, show q - j = (q - (j + 1)) + 1 by omega, List.replicate_succ, List.set_cons_zero, List.append_assoc]
  rfl

set_option maxHeartbeats 4000000 in
theorem bits_any (w : World) (p g q : Nat) (B : List Bool) (k : List UInt8) (h : FAt w p g q B) (hk : k.length + 1 ≤ 140737488355328) :
    Calls Tryz.prog 158 #[.pointer (some ⟨p, 0, none⟩), strV k] w fun e w' => ∃ v, e = .returned v ∧ IO w.heap.size w' v (bitsN B.length q k) ∧ Stay (fun _ => False) w w' := by
  obtain ⟨A, hA⟩ : ∃ A, A = Hn.moreN 1 k := ⟨_, rfl⟩
  obtain ⟨D, hD⟩ : ∃ D, D = Hn.moreN 1 (1 :: k) := ⟨_, rfl⟩
  have hA1 : (A : Int) ≤ 2147483646 := by have := Hn.moreN_lt 1 k; omega
  have hD1 : (D : Int) ≤ 2147483646 := by have := Hn.moreN_lt 1 (1 :: k); omega
  obtain ⟨c1, w1, e1, x1, s1, z1⟩ := conv_key w k (by omega)
  obtain ⟨c2, w2, e2, x2, s2, z2⟩ := conv_key w1 (1 :: k) (by simpa using hk)
  rw [← key_one] at e2
  obtain ⟨m, hm⟩ : ∃ m, m = B.length := ⟨_, rfl⟩
  have H := Lib.hid h
  have HM := Lib.hid hm
  rw [← hm]
  clear hm
  have HA := Lib.hid hA
  have HD := Lib.hid hD
  have X1 := Lib.hid x1
  have X2 := Lib.hid x2
  have S2 := Lib.hid (s1.trans s2)
  clear h hA hD x1 x2 s1 s2
  unfold strV
  go_enter Tryz.func158, Tryz.ntmps158
  go_wp2_with fail
  refine (Hn.sum_any _ _ _ X1.out).mono ?_
  rintro e w' ⟨rfl, rfl⟩
  rw [← HA.out]
  unfold Hn.u32V
  go_wp2_with fail
  refine (Hn.sum_any _ _ _ X2.out).mono ?_
  rintro e w' ⟨rfl, rfl⟩
  rw [← HD.out]
  unfold Hn.u32V
  obtain ⟨lo, hi, qlo, qhi, ne, n, c, hn, hp, ho⟩ := H.out.stay0 S2.out
  have cp0 : w2.cell? ⟨p, 0, none⟩ = some (.int .i64 (B.length : Int)) := by rw [cell_of_row w2 p 0 _ _ _ hp]; rfl
  have cp1 : w2.cell? ⟨p, 1, none⟩ = some (.int .i64 (q : Int)) := by rw [cell_of_row w2 p 1 _ _ _ hp]; rfl
  clear hp ho
  rw [← HM.out] at lo hi cp0
  have HCP := Lib.hid cp0
  have HPL := Lib.hid ((H.out.stay0 S2.out).plt)
  clear cp0
  obtain ⟨b2, hb2⟩ : ∃ b2, b2 = w2.heap.size := ⟨_, rfl⟩
  go_wp2_with (with_reducible refine make_int rfl (.tmp 23) (.tmp 23) rfl q rfl rfl (by omega) ?_; intro w3 ho3 hs3 hz3; have HO := Lib.hid ho3; have HS := Lib.hid hs3; clear ho3 hs3)
  rw [← hb2] at HO ⊢
  have HB2 := Lib.hid hb2
  clear hb2
  go_loopw [5, 27] (fun t i wr => ∃ j T : Nat, j ≤ q ∧ i = .int .i64 (j : Int) ∧ t = .int .u64 (T : Int) ∧ Hid (T = A + j * D) ∧ IO b2 wr (.slice (some ⟨b2, 0, none⟩) q q) (bitsN m j k ++ List.replicate (q - j) 0) ∧ Stay (fun k => k = b2) w3 wr) (fun _ i _ => q - (intOf i).toNat)
  case atStart => exact ⟨0, A, Nat.zero_le _, rfl, rfl, Lib.hid (by omega), HO.out, Stay.refl _ _⟩
  case round =>
    obtain ⟨j, T, hj, rfl, rfl, hT, ho, hst⟩ := hrel
    have HO1 := Lib.hid ho
    have HS1 := Lib.hid hst
    have HT := Lib.hid hT.out
    clear ho hst hT
    by_cases hlt : j < q
    · have cp0 : wr.cell? ⟨p, 0, none⟩ = some (.int .i64 (m : Int)) := HS1.out.cell (HS.out.cell HCP.out (fun x => x)) (fun (x : p = b2) => by have h1 := HPL.out; have h2 := HB2.out; omega)
      have hTb : (T : Int) ≤ 36507222018 := by
        have h9 := Nat.mul_le_mul (show j ≤ 16 by omega) (show D ≤ 2147483646 by omega)
        have := HT.out
        omega
      have hcj : wr.cell? ⟨b2, j, none⟩ = some (.int .i64 0) := IO.cell' (n := 0) (len_mid hj).symm HO1.out (at_mid hlt)
      have hfr := IO.fr (len_mid hj).symm HO1.out j
      have HV := Lib.hid (show wrap64 ((T : Int) % (m : Int)) = ((bitN m k j : Nat) : Int) by
        have h1 : (T : Int) % (m : Int) = ((bitN m k j : Nat) : Int) := by
          rw [HT.out, HA.out, HD.out]
          exact (Int.natCast_emod _ _).symm
        have h2 := bitN_lt (s := m) (by omega) k j
        rw [h1]
        exact wrap_small _ (by omega) (by omega))
      go_wp2
      rw [HV.out]
      refine ⟨⟨j + 1, T + D, hlt, by go_num, by go_num, Lib.hid (by rw [HT.out, Nat.succ_mul]; omega), ?_, HS1.out.trans (Stay.setCell _ ⟨b2, j, none⟩ _ rfl)⟩, by simp [intOf]; omega⟩
      have := IO.set (len_mid hj).symm HO1.out j (bitN m k j)
      rw [set_mid hlt] at this
      exact this
    · obtain rfl : j = q := by omega
      go_wp2
      go_ret
      rw [Nat.sub_self, List.replicate_zero, List.append_nil] at HO1
      refine ⟨_, rfl, ?_, ?_⟩
      · have := row_base (base' := w.heap.size) HO1.out (fun k hk => by cases hk; have h1 := HB2.out; have h2 := S2.out.size; show w.heap.size ≤ b2; omega)
        rw [HM.out] at this ⊢
        have e : j = (bitsN B.length j k).length := (bitsN_len ..).symm
        unfold IO
        rw [bitsN_len] at this ⊢
        exact this
      · exact stay_seal (X := fun i => w.heap.size ≤ i) (((S2.out.mono (fun _ x => x.elim)).trans (HS.out.mono (fun _ x => x.elim))).trans (HS1.out.mono (fun i (hi : i = b2) => by have h1 := HB2.out; have h2 := S2.out.size; omega))) (fun i hi => hi)

end Go.Proofs.YtljlfdhjolcnaaaGreat.Bo

/-
  bloom: a key laid in; whether it may be there; how many bits are set.
-/
namespace Go.Proofs.YtljlfdhjolcnaaaGreat.Bo
open Go.RowKit Pk
set_option maxRecDepth 100000

theorem stay_add {w w1 w2 : World} {g : Nat} (h1 : Stay (fun _ => False) w w1) (h2 : Stay (fun i => i = g) w1 w2) : Stay (fun i => i = g) w w2 := (h1.mono (fun _ x => x.elim)).trans h2
theorem or_table : ∀ c : Fin 256, ∀ j : Fin 8, bits BinOp.or IntKind.u8 ((c.val : Nat) : Int) ((2 : Int) ^ j.val % 256) = ((c.val ||| 2 ^ j.val : Nat) : Int) := by decide +kernel
def orB (c : UInt8) (j : Nat) : UInt8 := UInt8.ofNat (c.toNat ||| 2 ^ j)
theorem orB_nat {c : UInt8} {j : Nat} (hj : j < 8) : (orB c j).toNat = c.toNat ||| 2 ^ j := by
  have h := Nat.or_lt_two_pow (n := 8) c.toNat_lt (Nat.pow_lt_pow_right (by decide) hj)
  unfold orB
  rw [UInt8.toNat_ofNat']
  exact Nat.mod_eq_of_lt h
theorem or_is (c : UInt8) (n : Nat) : Value.int .u8 (bits BinOp.or IntKind.u8 (c.toNat : Int) ((2 : Int) ^ (n % 8) % 256)) = byteV (orB c (n % 8)) := by
  have hj : n % 8 < 8 := Nat.mod_lt _ (by decide)
  unfold byteV
  rw [orB_nat hj]
  exact congrArg _ (or_table ⟨c.toNat, c.toNat_lt⟩ ⟨n % 8, hj⟩)

set_option maxHeartbeats 4000000 in
theorem add_any (w : World) (p g q : Nat) (B : List Bool) (k : List UInt8) (h : FAt w p g q B) (hk : k.length + 1 ≤ 140737488355328) :
    Calls Tryz.prog 134 #[.pointer (some ⟨p, 0, none⟩), strV k] w fun e w' => e = .returned (.tuple #[]) ∧ FAt w' p g q (addB B (bitsN B.length q k)) ∧ Stay (fun i => i = g) w w' := by
  have H := Lib.hid h
  have hq1 := h.qlo
  have hq2 := h.qhi
  have hb := bits_any w p g q B k h hk
  clear h
  obtain ⟨l, hl⟩ : ∃ l, l = bitsN B.length q k := ⟨_, rfl⟩
  have hlq : l.length = q := by rw [hl, bitsN_len]
  have HLB := Lib.hid (show ∀ n ∈ l, n < B.length from fun n hn => bitsN_lt H.out.lo (hl ▸ hn))
  rw [← hl] at hb ⊢
  clear hl
  have HBI := Lib.hid hb
  clear hb
  go_enter Tryz.func134, Tryz.ntmps134
  go_wp2_with fail
  refine HBI.out.mono ?_
  rintro e w1 ⟨v, rfl, ho, hs⟩
  obtain ⟨gi, c, rfl, hgi, hgi2⟩ := ho.at (by omega)
  rw [hlq] at ho ⊢
  have HO := Lib.hid ho
  have HS := Lib.hid hs
  have HL := Lib.hid hlq
  have HF := Lib.hid (H.out.stay0 hs)
  clear ho hs hlq
  go_wp2
  go_loopw [10] (fun i wr => ∃ j : Nat, j ≤ q ∧ i = .int .i64 (j : Int) ∧ FAt wr p g q (addB B (l.take j)) ∧ Stay (fun i => i = g) w1 wr) (fun i _ => q - (intOf i).toNat)
  case atStart => exact ⟨0, Nat.zero_le _, rfl, HF.out, Stay.refl _ _⟩
  case round =>
    obtain ⟨j, hj, rfl, hf, hst⟩ := hrel
    by_cases hlt : j < q
    · obtain ⟨n, hn⟩ : ∃ n, l[j]? = some n := ⟨_, List.getElem?_eq_getElem (by have := HL.out; omega)⟩
      have hnB := HLB.out n (List.mem_of_getElem? hn)
      obtain ⟨C, hC⟩ : ∃ C, C = addB B (l.take j) := ⟨_, rfl⟩
      have hCl : C.length = B.length := by rw [hC]; exact addB_len _ _
      have HC := Lib.hid hC
      have HCL := Lib.hid hCl
      rw [← hC] at hf
      clear hC hCl
      obtain ⟨lo, hi, qlo, qhi, ne, m, cc, hm, hp, ho⟩ := hf
      have cp2 : wr.cell? ⟨p, 2, none⟩ = some (.slice (some ⟨g, 0, none⟩) m cc) := by rw [cell_of_row wr p 2 _ _ _ hp]; rfl
      obtain ⟨c0, hc0⟩ : ∃ c0, (packB C)[n / 8]? = some c0 := ⟨_, List.getElem?_eq_getElem (by rw [len_pack]; exact at_need (by have := HCL.out; omega))⟩
      have cg := owns_cell' (by rw [len_pack]; exact hm) ho hc0
      have fg := owns_fr (by rw [len_pack]; exact hm) ho (n / 8)
      have hnm : n / 8 < m := by rw [hm]; exact at_need (by have := HCL.out; omega)
      have HMM := Lib.hid hm
      have HP := Lib.hid hp
      have HOO := Lib.hid ho
      have hnb : (n : Int) ≤ 1048576 := by have := HCL.out; omega
      clear hm hp ho
      have ci : wr.cell? ⟨gi, j, none⟩ = some (.int .i64 (n : Int)) := hst.cell (IO.cell' HL.out.symm HO.out hn) (fun (x : gi = g) => by have := H.out.glt; omega)
      unfold byteV at cg
      go_wp2
      go_region
      rw [or_is]
      obtain ⟨w2, hw2⟩ : ∃ w2, (wr.setCell ⟨g, n / 8, none⟩ (byteV (orB c0 (n % 8)))).drew = w2 := ⟨_, rfl⟩
      have hs2 : Stay (fun i => i = g) wr w2 := by rw [← hw2]; exact (Stay.setCell (X := fun i => i = g) _ ⟨g, n / 8, none⟩ _ rfl).trans Stay.drew
      have hf2 : FAt w2 p g q (addB B (l.take (j + 1))) := by
        have hset : addB B (l.take (j + 1)) = C.set n true := by rw [List.take_add_one, hn]; exact (addB_snoc _ _ _).trans (by rw [HC.out])
        rw [hset]
        have hnC : n < C.length := by have := HCL.out; omega
        have hgd : (packB C).getD (n / 8) 0 = c0 := by rw [List.getD_eq_getElem?_getD, hc0]; rfl
        have hpk : packB (C.set n true) = (packB C).set (n / 8) (orB c0 (n % 8)) := (((packB_is C).set hnC (by rw [hgd]; exact orB_nat (Nat.mod_lt _ (by decide)))).is).symm
        refine ⟨by rw [List.length_set]; exact lo, by rw [List.length_set]; exact hi, qlo, qhi, ne, m, cc, by rw [List.length_set]; exact HMM.out, ?_, ?_⟩
        · rw [List.length_set]
          exact (hs2.block p (lt_of_block HP.out) ne).trans HP.out
        · rw [hpk, ← hw2]
          exact (owns_set (by rw [len_pack]; exact HMM.out) HOO.out (n / 8) (orB c0 (n % 8))).drew
      rw [hw2]
      have HF2 := Lib.hid hf2
      have HS2 := Lib.hid (hst.trans hs2)
      clear hf2 hs2 hw2 ci cg fg cp2
      go_wp2
      exact ⟨⟨j + 1, hlt, by go_num, HF2.out, HS2.out⟩, by simp [intOf]; omega⟩
    · obtain rfl : j = q := by omega
      have HF2 := Lib.hid hf
      have HS2 := Lib.hid (stay_add HS.out hst)
      have HT := Lib.hid (show l.take j = l from List.take_of_length_le (by rw [HL.out]; exact Nat.le_refl _))
      clear hf hst
      go_wp2
      refine bodyPost_end (results_none rfl _ _ _) rfl ⟨rfl, ?_, HS2.out⟩
      have := HF2.out
      rw [HT.out] at this
      exact this

theorem and_table : ∀ c : Fin 256, ∀ j : Fin 8, (bits BinOp.and IntKind.u8 ((c.val : Nat) / (2 : Int) ^ j.val) 1 == 0) = !(c.val.testBit j.val) := by decide +kernel
set_option maxHeartbeats 4000000 in
theorem may_any (w : World) (p g q : Nat) (B : List Bool) (k : List UInt8) (h : FAt w p g q B) (hk : k.length + 1 ≤ 140737488355328) :
    Calls Tryz.prog 167 #[.pointer (some ⟨p, 0, none⟩), strV k] w fun e w' => e = .returned (.bool (mayB B (bitsN B.length q k))) ∧ Stay (fun _ => False) w w' := by
  have H := Lib.hid h
  have hq1 := h.qlo
  have hq2 := h.qhi
  have hb := bits_any w p g q B k h hk
  clear h
  obtain ⟨l, hl⟩ : ∃ l, l = bitsN B.length q k := ⟨_, rfl⟩
  have hlq : l.length = q := by rw [hl, bitsN_len]
  have HLB := Lib.hid (show ∀ n ∈ l, n < B.length from fun n hn => bitsN_lt H.out.lo (hl ▸ hn))
  rw [← hl] at hb ⊢
  clear hl
  have HBI := Lib.hid hb
  clear hb
  obtain ⟨M, hM⟩ : ∃ M, M = mayB B l := ⟨_, rfl⟩
  rw [← hM]
  have HMA := Lib.hid hM
  clear hM
  go_enter Tryz.func167, Tryz.ntmps167
  go_wp2_with fail
  refine HBI.out.mono ?_
  rintro e w1 ⟨v, rfl, ho, hs⟩
  obtain ⟨gi, c, rfl, hgi, hgi2⟩ := ho.at (by omega)
  rw [hlq] at ho ⊢
  have HO := Lib.hid ho
  have HS := Lib.hid hs
  have HL := Lib.hid hlq
  have HF := Lib.hid (H.out.stay0 hs)
  clear ho hs hlq
  go_wp2
  go_loop [11] (fun i => ∃ j : Nat, j ≤ q ∧ i = .int .i64 (j : Int) ∧ mayB B (l.take j) = true) (fun i => q - (intOf i).toNat)
  case atStart => exact ⟨0, Nat.zero_le _, rfl, rfl⟩
  case round =>
    obtain ⟨j, hj, rfl, hm⟩ := hrel
    have HMJ := Lib.hid hm
    clear hm
    by_cases hlt : j < q
    · obtain ⟨n, hn⟩ : ∃ n, l[j]? = some n := ⟨_, List.getElem?_eq_getElem (by have := HL.out; omega)⟩
      have hnB := HLB.out n (List.mem_of_getElem? hn)
      have HN := Lib.hid hn
      have HNB := Lib.hid hnB
      obtain ⟨lo, hi, qlo, qhi, ne, m, cc, hm, hp, ho⟩ := HF.out
      have cp2 : w1.cell? ⟨p, 2, none⟩ = some (.slice (some ⟨g, 0, none⟩) m cc) := by rw [cell_of_row w1 p 2 _ _ _ hp]; rfl
      obtain ⟨c0, hc0⟩ : ∃ c0, (packB B)[n / 8]? = some c0 := ⟨_, List.getElem?_eq_getElem (by rw [len_pack]; exact at_need hnB)⟩
      have cg := owns_cell' (by rw [len_pack]; exact hm) ho hc0
      have hnm : n / 8 < m := by rw [hm]; exact at_need hnB
      have hnb : (n : Int) ≤ 1048576 := by omega
      have ci := IO.cell' HL.out.symm HO.out hn
      have HBT := Lib.hid (show B.getD n false = c0.toNat.testBit (n % 8) by
        rw [← (packB_is B).bit n]
        unfold bt
        rw [List.getD_eq_getElem?_getD, hc0]
        rfl)
      clear hm hp ho hc0 hn hnB
      unfold byteV at cg
      have ht := and_table ⟨c0.toNat, c0.toNat_lt⟩ ⟨n % 8, Nat.mod_lt _ (by decide)⟩
      dsimp only at ht
      cases hbit : c0.toNat.testBit (n % 8)
      · rw [hbit] at ht
        have HBIT := Lib.hid hbit
        clear hbit
        go_wp2
        go_ret
        exact ⟨by rw [HMA.out, mayB_no HN.out (HBT.out.trans HBIT.out)]; rfl, HS.out⟩
      · rw [hbit] at ht
        have HBIT := Lib.hid hbit
        clear hbit
        go_wp2
        exact ⟨⟨j + 1, hlt, by go_num, mayB_succ HMJ.out HN.out (HBT.out.trans HBIT.out)⟩, by simp [intOf]; omega⟩
    · obtain rfl : j = q := by omega
      go_wp2
      go_ret
      rw [HMA.out]
      have := HMJ.out
      rw [show l.take j = l from List.take_of_length_le (by rw [HL.out]; exact Nat.le_refl _)] at this
      exact ⟨by rw [this]; rfl, HS.out⟩

end Go.Proofs.YtljlfdhjolcnaaaGreat.Bo

/-
  bloom: a filter as bytes, the program's.
-/
namespace Go.Proofs.YtljlfdhjolcnaaaGreat.Bo
open Go.RowKit Pk
set_option maxRecDepth 100000

/-- A filter as bytes. -/
def encB (q : Nat) (B : List Bool) : List UInt8 := spellB B.length ++ spellB q ++ bytesB (packB B)

set_option maxHeartbeats 4000000 in
theorem encode_any (w : World) (p g q : Nat) (B : List Bool) (h : FAt w p g q B) :
    Calls Tryz.prog 137 #[.pointer (some ⟨p, 0, none⟩)] w fun e w' => ∃ v, e = .returned v ∧ Owns w.heap.size w' v (encB q B) ∧ Stay (fun _ => False) w w' := by
  have hg := h.glt
  obtain ⟨lo, hi, qlo, qhi, ne, n, c, hn, hp, ho⟩ := h
  obtain ⟨S, hSd⟩ : ∃ S : World → Prop, S = Stay (fun _ => False) w := ⟨_, rfl⟩
  have HS := Lib.hid (show ∀ W, S W → Stay (fun _ => False) w W by intro W h; rw [hSd] at h; exact h)
  have HSm := Lib.hid (show ∀ W, Stay (fun _ => False) w W → S W by intro W h; rw [hSd]; exact h)
  have HS0 := Lib.hid (HSm.out w.drew Stay.drew)
  have hrow := fun W (h : S W) => ((HS.out W h).block p (lt_of_block hp) (fun x => x)).trans hp
  obtain ⟨m, hm⟩ : ∃ m, m = B.length := ⟨_, rfl⟩
  unfold encB
  rw [← hm] at lo hi hn hrow ⊢
  have HPL := Lib.hid (show (packB B).length ≤ 131072 by rw [len_pack]; unfold need; omega)
  have HPB := Lib.hid (show (bytesB (packB B)).length ≤ 131081 by unfold bytesB; rw [List.length_append, length_spellB]; have := kOf_le (packB B).length; have := HPL.out; omega)
  have HC0 := Lib.hid (show ∀ W, S W → W.cell? ⟨p, 0, none⟩ = some (.int .i64 (m : Int)) from fun W h => cell_of_row W _ 0 _ _ _ (hrow W h))
  have HC1 := Lib.hid (show ∀ W, S W → W.cell? ⟨p, 1, none⟩ = some (.int .i64 (q : Int)) from fun W h => cell_of_row W _ 1 _ _ _ (hrow W h))
  have HC2 := Lib.hid (show ∀ W, S W → W.cell? ⟨p, 2, none⟩ = some (.slice (some ⟨g, 0, none⟩) n c) from fun W h => cell_of_row W _ 2 _ _ _ (hrow W h))
  have HO := Lib.hid (show Owns 0 w (.slice (some ⟨g, 0, none⟩) n c) (packB B) from ho)
  have HGL := Lib.hid hg
  clear hSd hrow hp ho hn hm hg
  go_enter Tryz.func137, Tryz.ntmps137
  go_wp2
  refine wp_region_held (S := S) (by kernel_rfl) ?_
  change wpAnyH _ _ _ _ _ _ _ _ (World.drew _)
  refine wpAnyH_takeL (i := 1) (v := .pointer (some ⟨p, 0, none⟩)) #[false, true, false, false, false, false, false, false, false, false, false, false, false, false, false, false, false, false, false, false] rfl (by kernel_rfl) (by kernel_rfl) (by kernel_rfl) (fun _ _ _ h => h) (by kernel_rfl) HS0.out (Or.inl ⟨by rfl, fun W hW => ?_⟩) ?_
  · go_simp
  conv =>
    arg 8
    simp [Act.put]
  refine wpAnyH_takeL (i := 7) (v := .pointer (some ⟨p, 0, none⟩)) #[false, true, false, false, false, false, false, true, false, false, false, false, false, false, false, false, false, false, false, false] rfl (by kernel_rfl) (by kernel_rfl) (by kernel_rfl) (fun _ _ _ h => h) (by kernel_rfl) HS0.out (Or.inl ⟨by rfl, fun W hW => ?_⟩) ?_
  · go_simp
  conv =>
    arg 8
    simp [Act.put]
  refine wpAnyH_takeL (i := 13) (v := .pointer (some ⟨p, 0, none⟩)) #[false, true, false, false, false, false, false, true, false, false, false, false, false, true, false, false, false, false, false, false] rfl (by kernel_rfl) (by kernel_rfl) (by kernel_rfl) (fun _ _ _ h => h) (by kernel_rfl) HS0.out (Or.inl ⟨by rfl, fun W hW => ?_⟩) ?_
  · go_simp
  conv =>
    arg 8
    simp [Act.put]
  refine wpAnyH_takeL (i := 2) (v := .pointer (some ⟨p, 0, none⟩)) #[false, true, true, false, false, false, false, true, false, false, false, false, false, true, false, false, false, false, false, false] rfl (by kernel_rfl) (by kernel_rfl) (by kernel_rfl) (fun _ _ _ h => h) (by kernel_rfl) HS0.out (Or.inl ⟨by rfl, fun W hW => ?_⟩) ?_
  · go_simp
  conv =>
    arg 8
    simp [Act.put]
  refine wpAnyH_takeL (i := 8) (v := .pointer (some ⟨p, 0, none⟩)) #[false, true, true, false, false, false, false, true, true, false, false, false, false, true, false, false, false, false, false, false] rfl (by kernel_rfl) (by kernel_rfl) (by kernel_rfl) (fun _ _ _ h => h) (by kernel_rfl) HS0.out (Or.inl ⟨by rfl, fun W hW => ?_⟩) ?_
  · go_simp
  conv =>
    arg 8
    simp [Act.put]
  refine wpAnyH_takeL (i := 14) (v := .pointer (some ⟨p, 0, none⟩)) #[false, true, true, false, false, false, false, true, true, false, false, false, false, true, true, false, false, false, false, false] rfl (by kernel_rfl) (by kernel_rfl) (by kernel_rfl) (fun _ _ _ h => h) (by kernel_rfl) HS0.out (Or.inl ⟨by rfl, fun W hW => ?_⟩) ?_
  · go_simp
  conv =>
    arg 8
    simp [Act.put]
  refine wpAnyH_takeL (i := 3) (v := .pointer (some ⟨p, 0, none⟩)) #[false, true, true, true, false, false, false, true, true, false, false, false, false, true, true, false, false, false, false, false] rfl (by kernel_rfl) (by kernel_rfl) (by kernel_rfl) (fun _ _ _ h => h) (by kernel_rfl) HS0.out (Or.inl ⟨by rfl, fun W hW => ?_⟩) ?_
  · go_simp
  conv =>
    arg 8
    simp [Act.put]
  refine wpAnyH_takeL (i := 9) (v := .pointer (some ⟨p, 1, none⟩)) #[false, true, true, true, false, false, false, true, true, true, false, false, false, true, true, false, false, false, false, false] rfl (by kernel_rfl) (by kernel_rfl) (by kernel_rfl) (fun _ _ _ h => h) (by kernel_rfl) HS0.out (Or.inl ⟨by rfl, fun W hW => ?_⟩) ?_
  · go_simp
  conv =>
    arg 8
    simp [Act.put]
  refine wpAnyH_takeL (i := 15) (v := .pointer (some ⟨p, 2, none⟩)) #[false, true, true, true, false, false, false, true, true, true, false, false, false, true, true, true, false, false, false, false] rfl (by kernel_rfl) (by kernel_rfl) (by kernel_rfl) (fun _ _ _ h => h) (by kernel_rfl) HS0.out (Or.inl ⟨by rfl, fun W hW => ?_⟩) ?_
  · go_simp
  conv =>
    arg 8
    simp [Act.put]
  refine wpAnyH_takeL (i := 4) (v := .int .i64 (m : Int)) #[false, true, true, true, true, false, false, true, true, true, false, false, false, true, true, true, false, false, false, false] rfl (by kernel_rfl) (by kernel_rfl) (by kernel_rfl) (fun _ _ _ h => h) (by kernel_rfl) HS0.out (Or.inl ⟨by rfl, fun W hW => ?_⟩) ?_
  · have kc := HC0.out W hW
    go_simp
  conv =>
    arg 8
    simp [Act.put]
  refine wpAnyH_takeL (i := 10) (v := .int .i64 (q : Int)) #[false, true, true, true, true, false, false, true, true, true, true, false, false, true, true, true, false, false, false, false] rfl (by kernel_rfl) (by kernel_rfl) (by kernel_rfl) (fun _ _ _ h => h) (by kernel_rfl) HS0.out (Or.inl ⟨by rfl, fun W hW => ?_⟩) ?_
  · have kc := HC1.out W hW
    go_simp
  conv =>
    arg 8
    simp [Act.put]
  refine wpAnyH_takeL (i := 16) (v := .slice (some ⟨g, 0, none⟩) n c) #[false, true, true, true, true, false, false, true, true, true, true, false, false, true, true, true, true, false, false, false] rfl (by kernel_rfl) (by kernel_rfl) (by kernel_rfl) (fun _ _ _ h => h) (by kernel_rfl) HS0.out (Or.inl ⟨by rfl, fun W hW => ?_⟩) ?_
  · have kc := HC2.out W hW
    go_simp
  conv =>
    arg 8
    simp [Act.put]
  refine wpAnyH_takeL (i := 5) (v := .int .u64 (m : Int)) #[false, true, true, true, true, true, false, true, true, true, true, false, false, true, true, true, true, false, false, false] rfl (by kernel_rfl) (by kernel_rfl) (by kernel_rfl) (fun _ _ _ h => h) (by kernel_rfl) HS0.out (Or.inl ⟨by rfl, fun W hW => ?_⟩) ?_
  · go_simp
    rw [IntKind.wrap_u64]
    omega
  conv =>
    arg 8
    simp [Act.put]
  refine wpAnyH_takeL (i := 11) (v := .int .u64 (q : Int)) #[false, true, true, true, true, true, false, true, true, true, true, true, false, true, true, true, true, false, false, false] rfl (by kernel_rfl) (by kernel_rfl) (by kernel_rfl) (fun _ _ _ h => h) (by kernel_rfl) HS0.out (Or.inl ⟨by rfl, fun W hW => ?_⟩) ?_
  · go_simp
    rw [IntKind.wrap_u64]
    omega
  conv =>
    arg 8
    simp [Act.put]
  refine wpAnyH_one #[true, true, true, true, true, true, false, true, true, true, true, true, false, true, true, true, true, false, false, false] (i := 0) rfl (by kernel_rfl) (by kernel_rfl) (fun K hK => ?_)
  go_simp
  go_wp2_with (
    go_at_call 44
    refine (Pk.new_any _).mono ?_
    rintro e w2 ⟨rfl, hw2⟩
    have HW2 := Lib.hid (show WrAt (fun k => w.heap.size ≤ k) w2 w.heap.size [] from hw2 ▸ WrAt.new w.drew)
    have HS2 := Lib.hid (show Stay (fun _ => False) w w2 from hw2 ▸ (Stay.drew (X := fun _ => False) (w := w)).trans (Stay.alloc _ _))
    clear hw2)
  refine hK _ _ ?_ ?_
  · exact HSm.out _ HS2.out
  conv =>
    arg 8
    simp [Act.put]
  refine wpAnyH_one #[true, true, true, true, true, true, true, true, true, true, true, true, false, true, true, true, true, false, false, false] (i := 6) rfl (by kernel_rfl) (by kernel_rfl) (fun K hK => ?_)
  go_simp
  go_wp2_with (
    go_at_call 46
    refine (uint_base w.heap.size w2 _ _ m HW2.out (by omega) (by simp)).mono ?_
    rintro e w3 ⟨rfl, hw3, hs3⟩
    have HW3 := Lib.hid hw3
    have HS3 := Lib.hid (stay_seal (X := fun k => w.heap.size ≤ k) ((HS2.out.mono (fun _ x => x.elim)).trans hs3) (fun k hk => hk))
    clear hw3 hs3)
  refine hK _ _ ?_ ?_
  · exact HSm.out _ HS3.out
  conv =>
    arg 8
    simp [Act.put]
  refine wpAnyH_one #[true, true, true, true, true, true, true, true, true, true, true, true, true, true, true, true, true, false, false, false] (i := 12) rfl (by kernel_rfl) (by kernel_rfl) (fun K hK => ?_)
  go_simp
  go_wp2_with (
    go_at_call 46
    refine (uint_base w.heap.size w3 _ _ q HW3.out (by omega) (by rw [List.nil_append, length_spellB]; have := kOf_le m; omega)).mono ?_
    rintro e w4 ⟨rfl, hw4, hs4⟩
    have HW4 := Lib.hid hw4
    have HS4 := Lib.hid (stay_seal (X := fun k => w.heap.size ≤ k) ((HS3.out.mono (fun _ x => x.elim)).trans hs4) (fun k hk => hk))
    clear hw4 hs4)
  refine hK _ _ ?_ ?_
  · exact HSm.out _ HS4.out
  conv =>
    arg 8
    simp [Act.put]
  refine wpAnyH_one #[true, true, true, true, true, true, true, true, true, true, true, true, true, true, true, true, true, true, false, false] (i := 17) rfl (by kernel_rfl) (by kernel_rfl) (fun K hK => ?_)
  go_simp
  go_wp2_with (
    go_at_call 49
    refine (wbytes_any _ w4 _ _ (packB B) _ HW4.out (HO.out.stay0 HS4.out).slc (fun _ k hk => by cases hk; have h1 := HGL.out; show ¬ w.heap.size ≤ g; omega) (by rw [List.nil_append, List.length_append, length_spellB, length_spellB]; have := kOf_le m; have := kOf_le q; have := HPL.out; omega)).mono ?_
    rintro e w5 ⟨rfl, hw5, hs5⟩
    have HW5 := Lib.hid (hw5.mono (Y := fun k => w.heap.size ≤ k) (fun k hk => hk.elim id (fun h => Nat.le_trans HS4.out.size h)))
    have HS5 := Lib.hid (stay_seal (X := fun k => w.heap.size ≤ k) ((HS4.out.mono (fun _ x => x.elim)).trans hs5) (fun k hk => hk))
    clear hw5 hs5)
  refine hK _ _ ?_ ?_
  · exact HSm.out _ HS5.out
  conv =>
    arg 8
    simp [Act.put]
  refine wpAnyH_one #[true, true, true, true, true, true, true, true, true, true, true, true, true, true, true, true, true, true, true, false] (i := 18) rfl (by kernel_rfl) (by kernel_rfl) (fun K hK => ?_)
  go_simp
  go_wp2_with (
    go_at_call 51
    refine (done_any _ w5 _ _ HW5.out (by rw [List.nil_append, List.length_append, List.length_append, length_spellB, length_spellB]; have := kOf_le m; have := kOf_le q; have := HPB.out; omega)).mono ?_
    rintro e w6 ⟨v6, rfl, ho6, hs6⟩
    have HO6 := Lib.hid (show Owns w.heap.size w6 v6 (spellB m ++ spellB q ++ bytesB (packB B)) from Owns.base (by rw [← List.nil_append (spellB m)]; exact ho6) (fun k hk => by have h1 := (ho6.lt k hk).1; have h2 := HS5.out.size; omega))
    have HS6 := Lib.hid (HS5.out.trans hs6)
    clear ho6 hs6)
  refine hK _ _ ?_ ?_
  · exact HSm.out _ HS6.out
  conv =>
    arg 8
    simp [Act.put]
  refine wpAnyH_takeL (i := 19) (v := v6) #[true, true, true, true, true, true, true, true, true, true, true, true, true, true, true, true, true, true, true, true] rfl (by kernel_rfl) (by kernel_rfl) (by kernel_rfl) (fun _ _ _ h => h) (by kernel_rfl) (HSm.out _ HS6.out) (Or.inl ⟨by rfl, fun W hW => ?_⟩) ?_
  · go_simp
  conv =>
    arg 8
    simp [Act.put]
  refine wpAnyH_done (by kernel_rfl) ?_ _
  go_wp2
  go_ret
  exact ⟨v6, rfl, HO6.out, HS6.out⟩

end Go.Proofs.YtljlfdhjolcnaaaGreat.Bo

/-
  bloom: the filter of bytes, in plain lists.
-/
namespace Go.Proofs.YtljlfdhjolcnaaaGreat.Bo
open Go.RowKit Pk

theorem take_inv {α : Type} {rule : List UInt8 → Except Nat (α × List UInt8)} {zero : α} (hr : ∀ b c, rule b = .error c → c ≠ 0) {s : RS} (h : (takeB rule zero s).2.err = 0) :
    s.err = 0 ∧ ∃ v r, rule s.b = .ok (v, r) ∧ takeB rule zero s = (v, ⟨r, 0⟩) := by
  by_cases he : s.err = 0
  · cases hv : rule s.b with
    | error c =>
      rw [takeB_error he hv] at h
      exact absurd h (hr _ _ hv)
    | ok p =>
      obtain ⟨v, r⟩ := p
      exact ⟨he, v, r, rfl, takeB_ok he hv⟩
  · rw [takeB_bad he] at h
    exact absurd h he
theorem done_inv {s : RS} (h : doneB s = 0) : s.err = 0 ∧ s.b = [] := by
  unfold doneB at h
  by_cases he : s.err ≠ 0
  · rw [if_pos he] at h; exact absurd h he
  · rw [if_neg he] at h
    refine ⟨Classical.not_not.1 he, ?_⟩
    by_cases hb : 0 < s.b.length
    · rw [if_pos hb] at h; cases h
    · exact List.length_eq_zero_iff.1 (by omega)
theorem text_of {most : Int} {b r t : List UInt8} (h : textB most b = .ok (t, r)) : ∃ r1, numB M64 b = .ok (t.length, r1) ∧ t = r1.take t.length ∧ r = r1.drop t.length ∧ t.length ≤ r1.length ∧ (t.length : Int) ≤ most := by
  by_cases h0 : most < 0
  · rw [textB_neg h0] at h; cases h
  cases hn : numB M64 b with
  | error c => rw [textB_err h0 hn] at h; cases h
  | ok p =>
    obtain ⟨n, r1⟩ := p
    by_cases h1 : most < (n : Int)
    · rw [textB_long h0 hn h1] at h; cases h
    · by_cases h2 : r1.length < n
      · rw [textB_end h0 hn h1 h2] at h; cases h
      · rw [textB_ok h0 hn h1 h2] at h
        cases h
        have e : (r1.take n).length = n := by rw [List.length_take]; omega
        exact ⟨r1, by rw [e], by rw [e], by rw [e], by rw [e]; omega, by rw [e]; omega⟩
theorem text_code (most : Int) : ∀ b c, textB most b = .error c → c ≠ 0 := fun b c hc => by have := textB_codes hc; omega
theorem num_code (most : Nat) : ∀ b c, numB most b = .error c → c ≠ 0 := fun b c hc => by have := numB_err hc; omega
theorem take_le (most : Nat) (s : RS) : (takeB (numB most) 0 s).1 ≤ most := by
  by_cases he : s.err = 0
  · cases hv : numB most s.b with
    | error c => rw [takeB_error he hv]; exact Nat.zero_le _
    | ok p =>
      obtain ⟨v, r⟩ := p
      rw [takeB_ok he hv]
      exact numB_le hv
  · rw [takeB_bad he]; exact Nat.zero_le _
theorem take_b_len (most : Nat) (s : RS) : (takeB (numB most) 0 s).2.b.length ≤ s.b.length := by
  by_cases he : s.err = 0
  · cases hv : numB most s.b with
    | error c => rw [takeB_error he hv]; exact Nat.le_refl _
    | ok p =>
      obtain ⟨v, r⟩ := p
      rw [takeB_ok he hv]
      exact numB_len hv
  · rw [takeB_bad he]; exact Nat.le_refl _

/-- Whether a bit behind the last of so many is set, as the last byte tells. -/
def oddB (x : List UInt8) (s : Nat) : Bool := decide (0 < s % 8) && decide (0 < (x.getD (x.length - 1) 0).toNat / 2 ^ (s % 8))
theorem odd_iff {x : List UInt8} {s : Nat} (hs : 1 ≤ s) (hx : x.length = need s) : oddB x s = true ↔ ∃ i, s ≤ i ∧ bt x i = true := by
  unfold need at hx
  unfold oddB
  rw [Bool.and_eq_true, decide_eq_true_iff, decide_eq_true_iff]
  constructor
  · rintro ⟨h1, h2⟩
    obtain ⟨j, hj⟩ := Nat.exists_testBit_of_ne_zero (Nat.pos_iff_ne_zero.1 h2)
    rw [← Nat.shiftRight_eq_div_pow, Nat.testBit_shiftRight] at hj
    have h8 : s % 8 + j < 8 := by
      apply Classical.byContradiction
      intro hge
      have : (x.getD (x.length - 1) 0).toNat < 2 ^ (s % 8 + j) := Nat.lt_of_lt_of_le (UInt8.toNat_lt _) (Nat.pow_le_pow_right (by decide) (by omega))
      rw [Nat.testBit_lt_two_pow this] at hj
      cases hj
    refine ⟨8 * (x.length - 1) + (s % 8 + j), by omega, ?_⟩
    unfold bt
    rw [show (8 * (x.length - 1) + (s % 8 + j)) / 8 = x.length - 1 by omega, show (8 * (x.length - 1) + (s % 8 + j)) % 8 = s % 8 + j by omega]
    exact hj
  · rintro ⟨i, hi, hb⟩
    unfold bt at hb
    by_cases hl : i / 8 < x.length
    · have e1 : i / 8 = x.length - 1 := by omega
      have h1 : 0 < s % 8 := by omega
      have h2 : s % 8 ≤ i % 8 := by omega
      refine ⟨h1, ?_⟩
      rw [e1] at hb
      apply Nat.pos_of_ne_zero
      intro h0
      rw [← Nat.shiftRight_eq_div_pow] at h0
      have h3 := Nat.testBit_shiftRight (i := s % 8) (j := i % 8 - s % 8) (x.getD (x.length - 1) 0).toNat
      rw [h0, Nat.zero_testBit, show s % 8 + (i % 8 - s % 8) = i % 8 by omega, hb] at h3
      cases h3
    · rw [getD_out _ (by omega)] at hb
      rw [show (0 : UInt8).toNat = 0 from rfl, Nat.zero_testBit] at hb
      cases hb

/-- The bits of bytes. -/
def bitsOf (s : Nat) (x : List UInt8) : List Bool := (List.range s).map (bt x)
theorem bitsOf_len (s : Nat) (x : List UInt8) : (bitsOf s x).length = s := by simp [bitsOf]
theorem bitsOf_at {s i : Nat} (x : List UInt8) (h : i < s) : (bitsOf s x)[i]? = some (bt x i) := by simp [bitsOf, h]
theorem bitsOf_is {s : Nat} {x : List UInt8} (hs : 1 ≤ s) (hx : x.length = need s) (ho : oddB x s = false) : IsP (bitsOf s x) x := by
  refine ⟨by rw [bitsOf_len]; exact hx, fun n => ?_⟩
  by_cases hn : n < s
  · rw [List.getD_eq_getElem?_getD, bitsOf_at x hn]
    rfl
  · rw [getD_out _ (by rw [bitsOf_len]; omega)]
    cases hb : bt x n with
    | false => rfl
    | true =>
      have := (odd_iff hs hx).2 ⟨n, by omega, hb⟩
      rw [ho] at this
      cases this

/-- What the reader takes off. -/
def decA (b : List UInt8) : Nat × RS := takeB (numB 1048576) 0 ⟨b, 0⟩
def decK (b : List UInt8) : Nat × RS := takeB (numB 16) 0 (decA b).2
def decX (b : List UInt8) : List UInt8 × RS := takeB (textB 131072) [] (decK b).2
/-- Whether bytes are a filter's. -/
def goodB (b : List UInt8) : Bool := decide (1 ≤ (decA b).1) && decide (1 ≤ (decK b).1) && decide (doneB (decX b).2 = 0) && decide ((decX b).1.length = need (decA b).1) && !oddB (decX b).1 (decA b).1
structure Good (b : List UInt8) : Prop where
  n1 : 1 ≤ (decA b).1
  k1 : 1 ≤ (decK b).1
  dn : doneB (decX b).2 = 0
  ln : (decX b).1.length = need (decA b).1
  od : oddB (decX b).1 (decA b).1 = false
theorem good_of {b : List UInt8} (h : goodB b = true) : Good b := by
  unfold goodB at h
  simp only [Bool.and_eq_true, decide_eq_true_eq, Bool.not_eq_true'] at h
  obtain ⟨⟨⟨⟨h1, h2⟩, h3⟩, h4⟩, h5⟩ := h
  exact ⟨h1, h2, h3, h4, h5⟩
theorem good_to {b : List UInt8} (h : Good b) : goodB b = true := by
  unfold goodB
  rw [decide_eq_true h.n1, decide_eq_true h.k1, decide_eq_true h.dn, decide_eq_true h.ln, h.od]
  rfl
theorem Good.nle {b : List UInt8} : (decA b).1 ≤ 1048576 := take_le _ _
theorem Good.kle {b : List UInt8} : (decK b).1 ≤ 16 := take_le _ _
def decBits (b : List UInt8) : List Bool := bitsOf (decA b).1 (decX b).1
theorem decBits_len (b : List UInt8) : (decBits b).length = (decA b).1 := bitsOf_len _ _
theorem Good.is {b : List UInt8} (h : Good b) : IsP (decBits b) (decX b).1 := bitsOf_is h.n1 h.ln h.od

/-- What bytes tell is told by the same bytes again. -/
theorem Good.enc {b : List UInt8} (h : Good b) : spellB (decBits b).length ++ spellB (decK b).1 ++ bytesB (packB (decBits b)) = b := by
  obtain ⟨he, hb⟩ := done_inv h.dn
  have hx := h.is.is
  rw [decBits_len, ← hx]
  unfold decX at he hb ⊢
  obtain ⟨he2, x, r3, h3, e3⟩ := take_inv (text_code _) he
  rw [e3] at hb ⊢
  dsimp only at hb ⊢
  subst hb
  unfold decK at he2 h3 ⊢
  obtain ⟨he1, k, r2, h2, e2⟩ := take_inv (num_code _) he2
  rw [e2] at h3 ⊢
  dsimp only at h3 ⊢
  unfold decA at he1 h2 ⊢
  obtain ⟨_, n, r1, h1, e1⟩ := take_inv (num_code _) he1
  rw [e1] at h2 ⊢
  dsimp only at h1 h2 ⊢
  obtain ⟨r4, h4, h5, h6, h7, _⟩ := text_of h3
  obtain ⟨f1, _⟩ := spell_num h1
  obtain ⟨f2, _⟩ := spell_num h2
  obtain ⟨f4, _⟩ := spell_num h4
  rw [f1, f2]
  unfold bytesB
  rw [List.append_assoc, f4]
  congr 2
  have e : r4.take x.length ++ r4.drop x.length = r4 := List.take_append_drop _ _
  rw [← h6, ← h5, List.append_nil] at e
  rw [← e]
end Go.Proofs.YtljlfdhjolcnaaaGreat.Bo

/-
  bloom: keys laid in one after the other, in plain lists; the filter's own bytes are the filter's.
-/
namespace Go.Proofs.YtljlfdhjolcnaaaGreat.Bo
open Go.RowKit Pk

/-- A key laid in; keys laid in. -/
def addK (q : Nat) (B : List Bool) (k : List UInt8) : List Bool := addB B (bitsN B.length q k)
def addAll (q : Nat) (B : List Bool) (ks : List (List UInt8)) : List Bool := ks.foldl (addK q) B
theorem addK_len (q : Nat) (B : List Bool) (k : List UInt8) : (addK q B k).length = B.length := addB_len _ _
theorem addAll_len (q : Nat) (ks : List (List UInt8)) : ∀ B : List Bool, (addAll q B ks).length = B.length := by
  induction ks with
  | nil => intro B; rfl
  | cons k r ih => intro B; exact (ih (addK q B k)).trans (addK_len q B k)
theorem addAll_snoc (q : Nat) (B : List Bool) (ks : List (List UInt8)) (k : List UInt8) : addAll q B (ks ++ [k]) = addK q (addAll q B ks) k := by simp [addAll]
theorem addK_at {q : Nat} {B : List Bool} (hB : 0 < B.length) (k : List UInt8) (m : Nat) : (addK q B k).getD m false = (B.getD m false || decide (m ∈ bitsN B.length q k)) :=
  addB_at _ B (fun _ hn => bitsN_lt hB hn) m
theorem addAll_at (q : Nat) (ks : List (List UInt8)) : ∀ B : List Bool, 0 < B.length → ∀ m, (addAll q B ks).getD m false = (B.getD m false || ks.any (fun k => decide (m ∈ bitsN B.length q k))) := by
  induction ks with
  | nil => intro B _ m; simp [addAll]
  | cons k r ih =>
    intro B hB m
    have h := ih (addK q B k) (by rw [addK_len]; exact hB) m
    show (addAll q (addK q B k) r).getD m false = _
    rw [h, addK_at hB, addK_len, List.any_cons, Bool.or_assoc]
/-- What was laid in may be there. -/
theorem may_all {q : Nat} {B : List Bool} (hB : 0 < B.length) {ks : List (List UInt8)} {k : List UInt8} (hk : k ∈ ks) : mayB (addAll q B ks) (bitsN B.length q k) = true := by
  unfold mayB
  rw [List.all_eq_true]
  intro n hn
  rw [addAll_at q ks B hB, List.any_eq_true.2 ⟨k, hk, decide_eq_true hn⟩, Bool.or_true]

/-- A filter's own bytes are the filter's. -/
theorem enc_take {q : Nat} {B : List Bool} (h1 : 1 ≤ B.length) (h2 : B.length ≤ 1048576) (h3 : 1 ≤ q) (h4 : q ≤ 16) :
    decA (encB q B) = (B.length, ⟨spellB q ++ bytesB (packB B), 0⟩) ∧ decK (encB q B) = (q, ⟨bytesB (packB B), 0⟩) ∧ decX (encB q B) = (packB B, ⟨[], 0⟩) := by
  have hl : (packB B).length ≤ 131072 := by rw [len_pack]; unfold need; omega
  have e1 : decA (encB q B) = (B.length, ⟨spellB q ++ bytesB (packB B), 0⟩) := by
    unfold decA encB
    rw [List.append_assoc]
    exact takeB_ok rfl (num_spell (by omega) h2 _)
  have e2 : decK (encB q B) = (q, ⟨bytesB (packB B), 0⟩) := by
    unfold decK
    rw [e1]
    exact takeB_ok rfl (num_spell (by omega) h4 _)
  refine ⟨e1, e2, ?_⟩
  unfold decX
  rw [e2]
  refine takeB_ok rfl ?_
  show textB 131072 (bytesB (packB B)) = .ok (packB B, [])
  unfold bytesB
  rw [textB_ok (n := (packB B).length) (r := packB B) (by omega) (num_spell (by omega) (by unfold M64; omega) _) (by omega) (by omega), List.take_of_length_le (Nat.le_refl _), List.drop_eq_nil_of_le (Nat.le_refl _)]
theorem bits_of_pack (B : List Bool) : bitsOf B.length (packB B) = B := by
  refine bits_eq (bitsOf_len _ _) (fun n => ?_)
  by_cases hn : n < B.length
  · rw [List.getD_eq_getElem?_getD, bitsOf_at _ hn]
    exact (packB_is B).bit n
  · rw [getD_out _ (by rw [bitsOf_len]; omega), getD_out _ (by omega)]
theorem odd_pack {B : List Bool} (h1 : 1 ≤ B.length) : oddB (packB B) B.length = false := by
  cases h : oddB (packB B) B.length with
  | false => rfl
  | true =>
    obtain ⟨i, hi, hb⟩ := (odd_iff h1 (len_pack B)).1 h
    rw [(packB_is B).bit, getD_out _ hi] at hb
    cases hb
theorem enc_good {q : Nat} {B : List Bool} (h1 : 1 ≤ B.length) (h2 : B.length ≤ 1048576) (h3 : 1 ≤ q) (h4 : q ≤ 16) : goodB (encB q B) = true ∧ decBits (encB q B) = B ∧ (decK (encB q B)).1 = q := by
  obtain ⟨e1, e2, e3⟩ := enc_take h1 h2 h3 h4
  refine ⟨good_to ⟨by rw [e1]; exact h1, by rw [e2]; exact h3, by rw [e3]; rfl, by rw [e3, e1]; exact len_pack B, by rw [e3, e1]; exact odd_pack h1⟩, ?_, by rw [e2]⟩
  unfold decBits
  rw [e1, e3]
  exact bits_of_pack B
end Go.Proofs.YtljlfdhjolcnaaaGreat.Bo

/-
  bloom: how many bits are set; the filter of bytes.
-/
namespace Go.Proofs.YtljlfdhjolcnaaaGreat.Bo
open Go.RowKit Pk
set_option maxRecDepth 100000

theorem cast_gt (a k : Nat) : decide ((0 : Int) < (a : Int) / (2 : Int) ^ k) = decide (0 < a / 2 ^ k) := by
  have e : (a : Int) / (2 : Int) ^ k = ((a / 2 ^ k : Nat) : Int) := by simp
  rw [e]
  by_cases h : 0 < a / 2 ^ k
  · rw [decide_eq_true h, decide_eq_true (by omega)]
  · rw [decide_eq_false h, decide_eq_false (by omega)]
set_option maxHeartbeats 1000000 in
theorem odd_any (w : World) (v : Value) (x : List UInt8) (s : Nat) (hv : Slc w v x) (hx : 0 < x.length) (hs : s ≤ 1048576) :
    Calls Tryz.prog 162 #[v, .int .i64 (s : Int)] w fun e w' => e = .returned (.bool (oddB x s)) ∧ w = w' := by
  obtain ⟨O, hO⟩ : ∃ O, O = oddB x s := ⟨_, rfl⟩
  rw [← hO]
  unfold oddB at hO
  have HO := Lib.hid hO
  clear hO
  obtain ⟨a0, c, rfl, hr, _, hc1, hc2⟩ := hv
  obtain ⟨ad, rfl, hcell⟩ := hr hx
  obtain ⟨c0, hc0⟩ : ∃ c0, x[x.length - 1]? = some c0 := ⟨_, List.getElem?_eq_getElem (by omega)⟩
  have cg := hcell (x.length - 1) (byteV c0) (by simp [cellsB, hc0])
  have HC := Lib.hid (show x.getD (x.length - 1) 0 = c0 by rw [List.getD_eq_getElem?_getD, hc0]; rfl)
  unfold byteV at cg
  have hlen : (x.length : Int) ≤ 9223372036854775807 := by omega
  clear hcell hc0 hr
  by_cases h0 : 0 < s % 8
  · go_enter Tryz.func162, Tryz.ntmps162
    go_wp2
    go_ret
    refine ⟨?_, rfl⟩
    rw [HO.out, HC.out, decide_eq_true h0, Bool.true_and, ← cast_gt]
    rfl
  · go_enter Tryz.func162, Tryz.ntmps162
    go_wp2
    go_ret
    refine ⟨?_, rfl⟩
    rw [HO.out, decide_eq_false h0, Bool.false_and]
    rfl

/-- Decode of bytes that are no filter's. -/
def DecRet (w w' : World) (b : List UInt8) (e : Ending) : Prop :=
  if goodB b = true then ∃ p g, e = .returned (.tuple #[.pointer (some ⟨p, 0, none⟩), .nilIface]) ∧ w.heap.size ≤ p ∧ w.heap.size ≤ g ∧ FAt w' p g (decK b).1 (decBits b) else e = .returned (.tuple #[.pointer none, Hn.errI 3])
set_option maxHeartbeats 4000000 in
theorem decode_any (w : World) (v : Value) (b : List UInt8) (hv : Slc w v b) (hlen : b.length ≤ 140737488355328) :
    Calls Tryz.prog 139 #[v] w fun e w' => DecRet w w' b e ∧ Stay (fun _ => False) w w' := by
  obtain ⟨R, hR⟩ : ∃ R : World → Ending → Prop, R = fun w' e => DecRet w w' b e := ⟨_, rfl⟩
  have HRB := Lib.hid (show ∀ w', goodB b = false → R w' (.returned (.tuple #[.pointer none, Hn.errI 3])) by
    intro w' hg
    rw [hR]
    show DecRet _ _ _ _
    unfold DecRet
    rw [if_neg (by rw [hg]; decide)])
  have HRG := Lib.hid (show ∀ w' p g, goodB b = true → w.heap.size ≤ p → w.heap.size ≤ g → FAt w' p g (decK b).1 (decBits b) → R w' (.returned (.tuple #[.pointer (some ⟨p, 0, none⟩), .nilIface])) by
    intro w' p g hg h1 h2 h3
    rw [hR]
    show DecRet _ _ _ _
    unfold DecRet
    rw [if_pos hg]
    exact ⟨p, g, rfl, h1, h2, h3⟩)
  rw [show (fun e w' => DecRet w w' b e ∧ Stay (fun _ => False) w w') = fun e w' => R w' e ∧ Stay (fun _ => False) w w' by rw [hR]]
  clear hR
  obtain ⟨G, hG⟩ : ∃ G, G = goodB b := ⟨_, rfl⟩
  rw [← hG] at HRB HRG
  unfold goodB at hG
  have hnl := Good.nle (b := b)
  have hkl := Good.kle (b := b)
  have hal := take_b_len 1048576 ⟨b, 0⟩
  have hkl2 := take_b_len 16 (decA b).2
  have hA : decA b = takeB (numB 1048576) 0 ⟨b, 0⟩ := rfl
  have hK : decK b = takeB (numB 16) 0 (decA b).2 := rfl
  have hX : decX b = takeB (textB 131072) [] (decK b).2 := rfl
  have hBits : decBits b = bitsOf (decA b).1 (decX b).1 := rfl
  rw [← hA] at hal
  rw [← hK] at hkl2
  generalize decBits b = DB at *
  generalize decX b = DX at *
  generalize decK b = DK at *
  generalize decA b = DA at *
  obtain ⟨n, sa⟩ := DA
  obtain ⟨k, sk⟩ := DK
  obtain ⟨x, sx⟩ := DX
  dsimp only at *
  have HG := Lib.hid hG
  have HA := Lib.hid hA
  have HK := Lib.hid hK
  have HX := Lib.hid hX
  have HB := Lib.hid hBits
  have HAL := Lib.hid hal
  have HKL := Lib.hid hkl2
  clear hG hA hK hX hBits hal hkl2
  go_enter Tryz.func139, Tryz.ntmps139
  go_wp2_with fail
  refine (read_cap w _ b hv hlen).mono ?_
  rintro e w1 ⟨p, rfl, hr1, hs1⟩
  go_wp2_with fail
  refine (ruint_at _ w1 p ⟨b, 0⟩ 1048576 _ (by rfl) hr1).mono ?_
  rintro e w2 ⟨rfl, hr2, hs2⟩
  rw [← HA.out] at hr2 ⊢
  dsimp only at hr2 ⊢
  unfold u64V
  go_wp2_with fail
  refine (ruint_at _ w2 p sa 16 _ (by rfl) hr2).mono ?_
  rintro e w3 ⟨rfl, hr3, hs3⟩
  rw [← HK.out] at hr3 ⊢
  dsimp only at hr3 ⊢
  unfold u64V
  have hpb := hr1.own
  have hz1 := hs1.size
  have HS3 := Lib.hid (show Stay (fun _ => False) w w3 from stay_seal (X := fun k => w.heap.size ≤ k) (((hs1.mono (fun _ x => x.elim)).trans (hs2.mono (fun i (hi : i = p) => by have := hpb.1; omega))).trans (hs3.mono (fun i (hi : i = p) => by have := hpb.1; omega))) (fun k hk => hk))
  have hpl := hpb.1
  clear hr1 hr2 hs1 hs2 hs3 hpb
  go_wp2_with fail
  refine (bytesFor_any 1048576 _ (by decide)).mono ?_
  rintro e w4 ⟨rfl, rfl⟩
  rw [show need 1048576 = 131072 by decide]
  go_wp2_with fail
  refine (rbytes_any _ w3 p sk 131072 hr3 (by have h1 := HAL.out; have h2 := HKL.out; omega) (by decide)).mono ?_
  rintro e w4 ⟨⟨vx, rfl, hox⟩, hr4, hs4⟩
  rw [← HX.out] at hox hr4
  dsimp only at hox hr4
  have HS4 := Lib.hid (stay_seal (X := fun k => w.heap.size ≤ k) ((HS3.out.mono (fun _ x => x.elim)).trans (hs4.mono (fun i (hi : i = p) => by omega))) (fun k hk => hk))
  obtain ⟨xa, xc, rfl⟩ := hox.form
  have HOX := Lib.hid hox
  have HR4 := Lib.hid hr4
  have hz3 := HS3.out.size
  clear hr3 hs4 hox hr4
  by_cases hnk : 1 ≤ n ∧ 1 ≤ k
  · obtain ⟨hn1, hk1⟩ := hnk
    have hzw : w.heap.size ≤ w4.heap.size := HS4.out.size
    go_wp2_with fail
    refine (new_any n k w4 hn1 hnl hk1 hkl).mono ?_
    rintro e w5 ⟨pf, gf, rfl, hpf, hgf, hf5, hs5⟩
    obtain ⟨_, _, _, _, hne, m, c, hm, hp, ho⟩ := hf5
    rw [List.length_replicate] at hm hp
    have cp2 : w5.cell? ⟨pf, 2, none⟩ = some (.slice (some ⟨gf, 0, none⟩) m c) := by rw [cell_of_row w5 pf 2 _ _ _ hp]; rfl
    have fp2 : w5.frozen? ⟨pf, 2, none⟩ = false := frozen_of_row w5 pf 2 _ _ hp
    have HS5 := Lib.hid (HS4.out.trans hs5)
    have HM := Lib.hid hm
    have HP := Lib.hid hp
    have HR5 := Lib.hid (HR4.out.stay0 hs5)
    have HO5 := Lib.hid (HOX.out.stay0 hs5)
    clear hs5 hm hp ho
    go_wp2_with fail
    refine (rdone_any _ w5 p sx HR5.out).mono ?_
    rintro e w6 ⟨rfl, rfl⟩
    by_cases hd : doneB sx = 0
    · rw [hd, errV_zero]
      by_cases hl : x.length = m
      · have hx0 : 0 < x.length := by rw [hl, HM.out]; unfold need; omega
        subst hl
        go_wp2_with fail
        refine (odd_any w5 _ x n HO5.out.slc hx0 hnl).mono ?_
        rintro e w6 ⟨rfl, rfl⟩
        cases hod : oddB x n
        · have HOD := Lib.hid hod
          have HD := Lib.hid hd
          clear hod hd
          have hG : G = true := by rw [HG.out, decide_eq_true hn1, decide_eq_true hk1, decide_eq_true HD.out, decide_eq_true HM.out, HOD.out]; rfl
          have HGT := Lib.hid hG
          clear hG
          obtain ⟨xg, xcc, hxe, hxg, hxg2⟩ := row_at HO5.out hx0
          cases hxe
          have hxl := HOX.out.lt xg rfl
          have HPX := Lib.hid (show pf ≠ xg by omega)
          have HPF := Lib.hid (show w.heap.size ≤ pf by omega)
          have HXG := Lib.hid (show w.heap.size ≤ xg by omega)
          clear hxg hxg2 hxl hpf hgf
          go_wp2
          go_ret2
          have hs7 : Stay (fun i => i = pf) w5 (w5.setCell ⟨pf, 2, none⟩ (.slice (some ⟨xg, 0, none⟩) x.length xc)) := Stay.setCell _ ⟨pf, 2, none⟩ _ rfl
          refine ⟨HRG.out _ pf xg HGT.out HPF.out HXG.out ?_, stay_seal (X := fun k => w.heap.size ≤ k) ((HS5.out.mono (fun _ x => x.elim)).trans (hs7.mono (fun i (hi : i = pf) => by have := HPF.out; show w.heap.size ≤ i; omega))) (fun k hk => hk)⟩
          have his : IsP DB x := by rw [HB.out]; exact bitsOf_is hn1 HM.out HOD.out
          have hln : DB.length = n := by rw [HB.out]; exact bitsOf_len _ _
          refine ⟨by omega, by omega, hk1, hkl, HPX.out, x.length, xc, by rw [hln]; exact HM.out, ?_, ?_⟩
          · rw [hln]
            exact heap_setCell_same w5 pf 2 _ _ _ HP.out
          · rw [← his.is]
            exact (HO5.out.base (fun k _ => Nat.zero_le k)).stay hs7 (fun k hk => by cases hk; exact fun e => HPX.out e.symm)
        · have hGF : G = false := by rw [HG.out, hod]; simp
          have HGF := Lib.hid hGF
          clear hGF hod
          go_wp2
          go_ret2
          exact ⟨HRB.out _ HGF.out, HS5.out⟩
      · have hGF : G = false := by rw [HG.out, decide_eq_false (p := x.length = need n) (fun e => hl (e.trans HM.out.symm))]; simp
        have HGF := Lib.hid hGF
        clear hGF
        go_wp2
        go_ret2
        exact ⟨HRB.out _ HGF.out, HS5.out⟩
    · have hGF : G = false := by rw [HG.out, decide_eq_false (p := doneB sx = 0) hd]; simp
      have HGF := Lib.hid hGF
      rw [errV_pos hd]
      unfold errI
      clear hGF hd
      go_wp2
      go_ret2
      exact ⟨HRB.out _ HGF.out, HS5.out⟩
  · have hGF : G = false := by
      rw [HG.out]
      rcases Nat.lt_or_ge n 1 with h | h
      · rw [decide_eq_false (by omega)]; rfl
      · rw [decide_eq_false (p := 1 ≤ k) (fun hk => hnk ⟨h, hk⟩)]; simp
    have HGF := Lib.hid hGF
    clear hGF
    go_wp2_with fail
    refine (new_bad n k w4 (by omega) (by omega) (by omega) (by omega) (by omega)).mono ?_
    rintro e w5 ⟨rfl, rfl⟩
    unfold Hn.errI
    go_wp2
    go_ret2
    exact ⟨HRB.out _ HGF.out, HS4.out⟩

end Go.Proofs.YtljlfdhjolcnaaaGreat.Bo

