/-
  table, plain: entries as a part's bytes, parts as a table's bytes; taken off they are what was laid; where a key would be.
-/
import Derived.Test.YteogdihacohkfaaGreatDoorGaM
import Derived.Test.YteogdihacohkfaaGreatDoorGaH
import Derived.Test.YteogdihacohkfaaGreatDoorGaB
import Derived.Test.YteogdihacohkfaaGreatDoorGaK
namespace Go.Proofs.YteogdihacohkfaaGreatDoor.Tb
open Me (En norm ltB Sorted getL posN hasB sizeL)
open Pk (spellB bytesB boolB textB takeB numB cntB truB RS M64 numB num_spell takeB_ok textB_ok kOf_le length_spellB)
set_option maxRecDepth 100000
set_option linter.unusedVariables false

/-- An entry as bytes; entries as bytes; a part's bytes. -/
def entB (e : En) : List UInt8 := bytesB e.k ++ boolB e.g ++ bytesB (norm e).v
def rowsB (L : List En) : List UInt8 := L.flatMap entB
def partB (L : List En) : List UInt8 := Hn.sealB (spellB L.length ++ rowsB L)
theorem rowsB_cons (e : En) (r : List En) : rowsB (e :: r) = entB e ++ rowsB r := by simp [rowsB]
theorem rowsB_snoc (L : List En) (e : En) : rowsB (L ++ [e]) = rowsB L ++ entB e := by simp [rowsB]
theorem rowsB_append (A B : List En) : rowsB (A ++ B) = rowsB A ++ rowsB B := by simp [rowsB]
/-- How many parts; a part's entries; a key by its number. -/
def cN (n p : Nat) : Nat := (n + p - 1) / p
def chunk (L : List En) (p i : Nat) : List En := (L.drop (i * p)).take p
def keyAt (L : List En) (i : Nat) : List UInt8 := (L.getD i ⟨[], [], false⟩).k
/-- A part with its first key. -/
def headB (L : List En) (p i : Nat) : List UInt8 := bytesB (keyAt L (i * p)) ++ bytesB (partB (chunk L p i))
/-- Parts from i on, so many. -/
def hdN (L : List En) (p : Nat) : Nat → Nat → List UInt8
  | _, 0 => []
  | i, k + 1 => headB L p i ++ hdN L p (i + 1) k
theorem hdN_succ (L : List En) (p : Nat) : ∀ k i, hdN L p i (k + 1) = hdN L p i k ++ headB L p (i + k)
  | 0, i => by simp [hdN]
  | k + 1, i => by
    have := hdN_succ L p k (i + 1)
    rw [hdN, this, hdN, List.append_assoc, show i + 1 + k = i + (k + 1) by omega]
/-- The filter's bits. -/
def keysL (L : List En) : List (List UInt8) := L.map (·.k)
def filtB (L : List En) (q : Nat) : List Bool := Bo.addAll 3 (List.replicate (q * L.length) false) (keysL L)
theorem filtB_len (L : List En) (q : Nat) : (filtB L q).length = q * L.length := by rw [filtB, Bo.addAll_len, List.length_replicate]
def lastK (L : List En) : List UInt8 := keyAt L (L.length - 1)
/-- What is behind the parts; a table's text; its bytes. -/
def tailT (L : List En) (q : Nat) : List UInt8 := bytesB (lastK L) ++ bytesB (Bo.encB 3 (filtB L q))
def textT (L : List En) (p q : Nat) : List UInt8 := spellB L.length ++ spellB (cN L.length p) ++ hdN L p 0 (cN L.length p) ++ tailT L q
def tabB (L : List En) (p q : Nat) : List UInt8 := Hn.sealB (textT L p q)

theorem cN_lt {n p i : Nat} (hp : 1 ≤ p) : i < cN n p ↔ i * p < n := by
  unfold cN
  have h := Nat.le_div_iff_mul_le (x := i + 1) (y := n + p - 1) (show 0 < p by omega)
  rw [Nat.add_mul] at h
  constructor
  · intro h1
    have := h.1 h1
    omega
  · intro h1
    exact h.2 (by omega)
theorem cN_pos {n p : Nat} (hp : 1 ≤ p) (hn : 1 ≤ n) : 1 ≤ cN n p := (cN_lt hp).2 (by omega)
theorem cN_le {n p : Nat} (hp : 1 ≤ p) : cN n p ≤ n := by
  rcases Nat.lt_or_ge n (cN n p) with h | h
  · have h1 := (cN_lt hp).1 h
    have := Nat.mul_le_mul_left n hp
    omega
  · exact h
theorem cN_end {n p : Nat} (hp : 1 ≤ p) : n ≤ cN n p * p := by
  rcases Nat.lt_or_ge (cN n p * p) n with h | h
  · have := (cN_lt hp).2 h
    omega
  · exact h
theorem length_chunk (L : List En) (p i : Nat) : (chunk L p i).length = min p (L.length - i * p) := by unfold chunk; rw [List.length_take, List.length_drop]
theorem chunk_at {L : List En} {p i j : Nat} (hj : j < p) : (chunk L p i)[j]? = L[i * p + j]? := by
  unfold chunk
  rw [List.getElem?_take, if_pos hj, List.getElem?_drop]
theorem take_chunk (L : List En) (p i : Nat) : L.take (i * p) ++ chunk L p i = L.take ((i + 1) * p) := by
  unfold chunk
  rw [Nat.add_mul, Nat.one_mul, List.take_add]
theorem keyAt_of {L : List En} {i : Nat} {e : En} (h : L[i]? = some e) : keyAt L i = e.k := by simp [keyAt, List.getD_eq_getElem?_getD, h]
theorem at_of {L : List En} {i : Nat} (h : i < L.length) : ∃ e, L[i]? = some e ∧ keyAt L i = e.k := ⟨_, List.getElem?_eq_getElem h, keyAt_of (List.getElem?_eq_getElem h)⟩
theorem chunk_key {L : List En} {p i : Nat} (hp : 1 ≤ p) (hi : i * p < L.length) : keyAt (chunk L p i) 0 = keyAt L (i * p) := by
  obtain ⟨e, he, hk⟩ := at_of hi
  rw [hk]
  exact keyAt_of (by rw [chunk_at (by omega)]; exact he)
theorem sorted_chunk {L : List En} (h : Sorted L) (p i : Nat) : Sorted (chunk L p i) :=
  List.Pairwise.sublist ((List.take_sublist _ _).trans (List.drop_sublist _ _)) h
theorem key_lt {L : List En} (h : Sorted L) {i j : Nat} (hij : i < j) (hj : j < L.length) : ltB (keyAt L i) (keyAt L j) = true := by
  obtain ⟨a, ha, ka⟩ := at_of (L := L) (i := i) (by omega)
  obtain ⟨b, hb, kb⟩ := at_of (L := L) (i := j) (by omega)
  rw [ka, kb]
  exact Me.sorted_at h hij ha hb
theorem key_le {L : List En} (h : Sorted L) {i j : Nat} (hij : i ≤ j) (hj : j < L.length) : ltB (keyAt L j) (keyAt L i) = false := by
  rcases Nat.lt_or_eq_of_le hij with h1 | rfl
  · exact Me.lt_asymm (key_lt h h1 hj)
  · exact Me.lt_self _

/-- In order: told by each one and the one ahead of it. -/
theorem sorted_of_next : ∀ {L : List En}, (∀ i, i + 1 < L.length → ltB (keyAt L i) (keyAt L (i + 1)) = true) → Sorted L
  | [], _ => List.Pairwise.nil
  | [e], _ => List.pairwise_singleton _ _
  | a :: b :: r, h => by
    have ih : Sorted (b :: r) := sorted_of_next (fun i hi => by
      have := h (i + 1) (by simp at *; omega)
      simpa [keyAt] using this)
    have h0 : ltB a.k b.k = true := by simpa [keyAt] using h 0 (by simp)
    refine List.pairwise_cons.2 ⟨fun x hx => ?_, ih⟩
    rcases List.mem_cons.1 hx with rfl | hx
    · exact h0
    · exact Me.lt_trans h0 (Me.sorted_head ih x hx)

/-- How many parts begin not above a key: those that come first. -/
structure IsJ (L : List En) (p : Nat) (k : List UInt8) (j : Nat) : Prop where
  le : j ≤ cN L.length p
  lo : ∀ i, i < j → ltB k (keyAt L (i * p)) = false
  hi : j < cN L.length p → ltB k (keyAt L (j * p)) = true
theorem IsJ.uniq {L : List En} {p : Nat} {k : List UInt8} {i j : Nat} (h : IsJ L p k i) (h' : IsJ L p k j) : i = j := by
  rcases Nat.lt_trichotomy i j with h1 | h1 | h1
  · have := h.hi (by have := h'.le; omega)
    rw [h'.lo i h1] at this
    cases this
  · exact h1
  · have := h'.hi (by have := h.le; omega)
    rw [h.lo j h1] at this
    cases this
/-- A key's entry is told by that part alone. -/
theorem get_part {L : List En} {p : Nat} {k : List UInt8} {j : Nat} (hp : 1 ≤ p) (hs : Sorted L) (h : IsJ L p k (j + 1)) : getL L k = getL (chunk L p j) k := by
  have hj : j < cN L.length p := by have := h.le; omega
  have hj' := (cN_lt hp).1 hj
  have e1 : L = L.take (j * p) ++ (chunk L p j ++ L.drop ((j + 1) * p)) := by
    rw [← List.append_assoc, take_chunk, List.take_append_drop]
  have hA : ∀ x ∈ L.take (j * p), (x.k == k) = false := by
    intro x hx
    obtain ⟨t, ht, rfl⟩ := List.getElem_of_mem hx
    rw [List.length_take] at ht
    have h1 := key_lt hs (i := t) (j := j * p) (by omega) hj'
    have h2 := h.lo j (by omega)
    have h3 := Me.lt_le h1 h2
    rw [List.getElem_take]
    rw [keyAt_of (List.getElem?_eq_getElem (by omega))] at h3
    simpa using Me.lt_ne h3
  have hB : ∀ x ∈ L.drop ((j + 1) * p), (x.k == k) = false := by
    intro x hx
    obtain ⟨t, ht, rfl⟩ := List.getElem_of_mem hx
    rw [List.length_drop] at ht
    have h0 := h.hi ((cN_lt hp).2 (by omega))
    have h1 := key_le hs (i := (j + 1) * p) (j := (j + 1) * p + t) (by omega) (by omega)
    have h3 := Me.lt_le h0 h1
    rw [List.getElem_drop]
    rw [keyAt_of (L := L) (i := (j + 1) * p + t) (List.getElem?_eq_getElem (by omega))] at h3
    have := Me.lt_ne h3
    simpa using fun e => this e.symm
  conv => lhs; rw [getL, e1]
  rw [Me.find_append _ _ _ hA]
  unfold getL
  rw [List.find?_append, Me.find_none _ _ hB]
  simp
theorem get_before {L : List En} {p : Nat} {k : List UInt8} (hp : 1 ≤ p) (hs : Sorted L) (h : IsJ L p k 0) : getL L k = none := by
  refine Me.find_none _ _ (fun x hx => ?_)
  obtain ⟨t, ht, rfl⟩ := List.getElem_of_mem hx
  have h0 := h.hi (cN_pos hp (by omega))
  rw [Nat.zero_mul] at h0
  have h1 := key_le hs (i := 0) (j := t) (by omega) ht
  have h3 := Me.lt_le h0 h1
  rw [keyAt_of (List.getElem?_eq_getElem ht)] at h3
  have := Me.lt_ne h3
  simpa using fun e => this e.symm
theorem get_behind {L : List En} {k : List UInt8} (hs : Sorted L) (h : ltB (lastK L) k = true) : getL L k = none := by
  refine Me.find_none _ _ (fun x hx => ?_)
  obtain ⟨t, ht, rfl⟩ := List.getElem_of_mem hx
  have h1 := key_le hs (i := t) (j := L.length - 1) (by omega) (by omega)
  have h3 := Me.le_lt h1 h
  rw [keyAt_of (List.getElem?_eq_getElem ht)] at h3
  simpa using Me.lt_ne h3
/-- Whether the filter has it. -/
def mayT (L : List En) (q : Nat) (k : List UInt8) : Bool := Bo.mayB (filtB L q) (Bo.bitsN (q * L.length) 3 k)
theorem get_not {L : List En} {q : Nat} {k : List UInt8} (hq : 1 ≤ q) (h : mayT L q k = false) : getL L k = none := by
  refine Me.find_none _ _ (fun x hx => ?_)
  by_cases e : x.k = k
  · exfalso
    have hl : 1 ≤ L.length := by
      cases L with
      | nil => cases hx
      | cons a r => simp
    have := Bo.may_all (q := 3) (B := List.replicate (q * L.length) false) (by rw [List.length_replicate]; exact Nat.mul_pos (by omega) (by omega)) (ks := keysL L) (k := k) (by rw [← e]; exact List.mem_map_of_mem hx)
    rw [List.length_replicate] at this
    unfold mayT filtB at h
    rw [this] at h
    cases h
  · simpa using e
theorem may_of {L : List En} {q : Nat} (hq : 1 ≤ q) {e : En} (he : e ∈ L) : mayT L q e.k = true := by
  cases h : mayT L q e.k with
  | true => rfl
  | false =>
    have h1 := get_not hq h
    exfalso
    have h2 := List.find?_eq_none.1 h1 e he
    simp at h2

/-- What is laid is taken off. -/
theorem text_lay (b r : List UInt8) (most : Int) (hb : (b.length : Int) ≤ most) (h2 : b.length ≤ 9223372036854775807) : textB most (bytesB b ++ r) = .ok (b, r) := by
  unfold bytesB
  rw [List.append_assoc, textB_ok (n := b.length) (r := b ++ r) (by omega) (num_spell (by omega) (by unfold M64; omega) _) (by omega) (by rw [List.length_append]; omega), List.take_left', List.drop_left'] <;> rfl
theorem tru_lay (g : Bool) (r : List UInt8) : truB (boolB g ++ r) = .ok (g, r) := by cases g <;> rfl
theorem cnt_lay (n : Nat) (r : List UInt8) (most : Int) (hn : (n : Int) ≤ most) (hm : most ≤ 9223372036854775807) (hr : n ≤ r.length) : cntB most (spellB n ++ r) = .ok ((n : Int), r) :=
  Pk.cntB_ok (num_spell (by omega) (by omega) _) (by omega)
theorem take_text (b r : List UInt8) (most : Int) (hb : (b.length : Int) ≤ most) (h2 : b.length ≤ 9223372036854775807) : takeB (textB most) [] ⟨bytesB b ++ r, 0⟩ = (b, ⟨r, 0⟩) := takeB_ok rfl (text_lay b r most hb h2)
theorem take_tru (g : Bool) (r : List UInt8) : takeB truB false ⟨boolB g ++ r, 0⟩ = (g, ⟨r, 0⟩) := takeB_ok rfl (tru_lay g r)
theorem take_num (n most : Nat) (r : List UInt8) (hn : n < 2 ^ 64) (hm : n ≤ most) : takeB (numB most) 0 ⟨spellB n ++ r, 0⟩ = (n, ⟨r, 0⟩) := takeB_ok rfl (num_spell hn hm _)
theorem take_cnt (n : Nat) (r : List UInt8) (most : Int) (hn : (n : Int) ≤ most) (hm : most ≤ 9223372036854775807) (hr : n ≤ r.length) : takeB (cntB most) 0 ⟨spellB n ++ r, 0⟩ = ((n : Int), ⟨r, 0⟩) := takeB_ok rfl (cnt_lay n r most hn hm hr)
theorem len_bytesB (b : List UInt8) : b.length + 1 ≤ (bytesB b).length ∧ (bytesB b).length ≤ b.length + 9 := by
  have := kOf_le b.length
  unfold bytesB
  rw [List.length_append, length_spellB]
  omega
theorem len_spellB (n : Nat) : 1 ≤ (spellB n).length ∧ (spellB n).length ≤ 9 := by
  have := kOf_le n
  rw [length_spellB]
  omega
theorem len_boolB (g : Bool) : (boolB g).length = 1 := rfl
theorem len_entB (e : En) : 3 ≤ (entB e).length ∧ (entB e).length ≤ e.k.length + (norm e).v.length + 19 := by
  have h1 := len_bytesB e.k
  have h2 := len_bytesB (norm e).v
  unfold entB
  rw [List.length_append, List.length_append, len_boolB]
  omega
theorem len_rowsB : ∀ L : List En, L.length ≤ (rowsB L).length ∧ (rowsB L).length ≤ sizeL L + 19 * L.length
  | [] => by simp [rowsB, sizeL]
  | e :: r => by
    have ih := len_rowsB r
    have h := len_entB e
    have hn := Me.norm_len e
    rw [rowsB_cons, List.length_append, List.length_cons]
    unfold sizeL
    omega
theorem length_partB (L : List En) : (partB L).length ≤ sizeL L + 19 * L.length + 13 := by
  have h1 := len_rowsB L
  have h2 := len_spellB L.length
  unfold partB
  rw [Hn.length_sealB, List.length_append]
  omega
theorem size_split (L : List En) (n : Nat) : sizeL L = sizeL (L.take n) + sizeL (L.drop n) := by rw [← Me.sizeL_append, List.take_append_drop]
theorem size_chunk (L : List En) (p i : Nat) : sizeL (chunk L p i) ≤ sizeL L := by
  have h1 := size_split L (i * p)
  have h2 := size_split (L.drop (i * p)) p
  unfold chunk
  omega
theorem keyAt_le (L : List En) (i : Nat) : (keyAt L i).length ≤ sizeL L := by
  rcases Nat.lt_or_ge i L.length with h | h
  · obtain ⟨e, he, hk⟩ := at_of h
    rw [hk]
    have h1 := size_split L i
    have h2 : L.drop i = e :: L.drop (i + 1) := by
      obtain ⟨h3, h4⟩ := List.getElem?_eq_some_iff.1 he
      rw [List.drop_eq_getElem_cons h3, h4]
    rw [h2] at h1
    simp only [sizeL] at h1
    omega
  · simp [keyAt, List.getD_eq_getElem?_getD, List.getElem?_eq_none h]
/-- The first parts are no longer than their entries, twice, and some more. -/
theorem len_hdN {L : List En} {p : Nat} (hp : 1 ≤ p) : ∀ k, k ≤ cN L.length p → k ≤ (hdN L p 0 k).length ∧ (hdN L p 0 k).length ≤ 2 * sizeL (L.take (k * p)) + 19 * (L.take (k * p)).length + 40 * k
  | 0, _ => by simp [hdN]
  | k + 1, h => by
    have ih := len_hdN (L := L) hp k (by omega)
    have hk := (cN_lt hp).1 (show k < cN L.length p by omega)
    have h1 := len_bytesB (keyAt L (k * p))
    have h2 := len_bytesB (partB (chunk L p k))
    have h3 := length_partB (chunk L p k)
    have h4 : (keyAt L (k * p)).length ≤ sizeL (chunk L p k) := by
      rw [← chunk_key hp hk]
      exact keyAt_le _ _
    have h5 : sizeL (L.take ((k + 1) * p)) = sizeL (L.take (k * p)) + sizeL (chunk L p k) := by rw [← take_chunk, Me.sizeL_append]
    have h6 : (L.take ((k + 1) * p)).length = (L.take (k * p)).length + (chunk L p k).length := by rw [← take_chunk, List.length_append]
    rw [hdN_succ, Nat.zero_add, List.length_append, h5, h6]
    unfold headB
    rw [List.length_append]
    omega
theorem len_encB {B : List Bool} (h : B.length ≤ 1048576) (q : Nat) : (Bo.encB q B).length ≤ B.length / 8 + 28 := by
  have h1 := len_bytesB (Bo.packB B)
  have h2 := len_spellB B.length
  have h3 := len_spellB q
  have h4 := Bo.len_pack B
  unfold Bo.need at h4
  unfold Bo.encB
  rw [List.length_append, List.length_append]
  omega
theorem length_tabB {L : List En} {p q : Nat} (hp : 1 ≤ p) (h : q * L.length ≤ 1048576) : (tabB L p q).length ≤ 3 * sizeL L + 59 * L.length + q * L.length + 80 := by
  have h1 := (len_hdN (L := L) hp (cN L.length p) (Nat.le_refl _)).2
  have h2 := cN_end (n := L.length) hp
  rw [List.take_of_length_le h2] at h1
  have h3 := len_spellB L.length
  have h4 := len_spellB (cN L.length p)
  have h5 := len_bytesB (lastK L)
  have h6 := len_bytesB (Bo.encB 3 (filtB L q))
  have h7 := len_encB (B := filtB L q) (by rw [filtB_len]; exact h) 3
  rw [filtB_len] at h7
  have h8 : (lastK L).length ≤ sizeL L := keyAt_le _ _
  have h9 := cN_le (n := L.length) hp
  unfold tabB
  rw [Hn.length_sealB]
  unfold textT tailT
  simp only [List.length_append]
  omega
end Go.Proofs.YteogdihacohkfaaGreatDoor.Tb
