import Derived.Test.YtljlfdhjolcnaaaGreatGaM
import Derived.Test.YtljlfdhjolcnaaaGreatGaH
import Derived.Test.YtljlfdhjolcnaaaGreatGaB
import Derived.Test.YtljlfdhjolcnaaaGreatGaK
import Derived.Test.YtljlfdhjolcnaaaGreatClassz
import Derived.Test.YtljlfdhjolcnaaaGreatHeldSz
import Derived.Great.BuildSlice
import Derived.RangeFuncNested
import Derived.RangeFuncBound
import Derived.RangeFuncCalls
import Derived.RangeFuncLeaves
import Derived.RangeFuncBox
import Derived.Shelf.Abstract
import Derived.Shelf.RegionOpen
import Derived.WalkKit
import Derived.OwnWalkIn
import Derived.TacticsInMore
import Derived.LoopNIn
import Derived.LoopIn
import Derived.Test.YtljlfdhjolcnaaaGreatDeNarz
/-
  table, plain: entries as a part's bytes, parts as a table's bytes; taken off they are what was laid; where a key would be.
-/
namespace Go.Proofs.YtljlfdhjolcnaaaGreat.Tb
open Me (En norm ltB Sorted getL posN hasB sizeL)
open Pk (spellB bytesB boolB textB takeB numB cntB truB RS M64 numB num_spell takeB_ok textB_ok kOf_le length_spellB)
set_option maxRecDepth 100000
set_option linter.unusedVariables false

/-- An entry as bytes; entries as bytes; a part's bytes. -/
def entB (e : En) : List UInt8 := bytesB e.k ++ boolB e.g ++ bytesB (norm e).v
def rowsB (L : List En) : List UInt8 := L.flatMap entB
def partB (L : List En) : List UInt8 := Hn.sealB (spellB L.length ++ rowsB L)
theorem rowsB_cons (e : En) (r : List En) : rowsB (e :: r) = entB e ++ rowsB r := by simp [rowsB]
theorem rowsB_snoc (L : List En) (e : En) : rowsB (L ++ [e]) = rowsB L ++ entB e := by simp [rowsB]
theorem rowsB_append (A B : List En) : rowsB (A ++ B) = rowsB A ++ rowsB B := by simp [rowsB]
/-- How many parts; a part's entries; a key by its number. -/
def cN (n p : Nat) : Nat := (n + p - 1) / p
def chunk (L : List En) (p i : Nat) : List En := (L.drop (i * p)).take p
def keyAt (L : List En) (i : Nat) : List UInt8 := (L.getD i ⟨[], [], false⟩).k
/-- A part with its first key. -/
def headB (L : List En) (p i : Nat) : List UInt8 := bytesB (keyAt L (i * p)) ++ bytesB (partB (chunk L p i))
/-- Parts from i on, so many. -/
def hdN (L : List En) (p : Nat) : Nat → Nat → List UInt8
  | _, 0 => []
  | i, k + 1 => headB L p i ++ hdN L p (i + 1) k
theorem hdN_succ (L : List En) (p : Nat) : ∀ k i, hdN L p i (k + 1) = hdN L p i k ++ headB L p (i + k)
  | 0, i => by simp [hdN]
  | k + 1, i => by
    have := hdN_succ L p k (i + 1)
    rw [hdN, this, hdN, List.append_assoc, show i + 1 + k = i + (k + 1) by omega]
/-- The filter's bits. -/
def keysL (L : List En) : List (List UInt8) := L.map (·.k)
def filtB (L : List En) (q : Nat) : List Bool := Bo.addAll 3 (List.replicate (q * L.length) false) (keysL L)
theorem filtB_len (L : List En) (q : Nat) : (filtB L q).length = q * L.length := by rw [filtB, Bo.addAll_len, List.length_replicate]
def lastK (L : List En) : List UInt8 := keyAt L (L.length - 1)
/-- What is behind the parts; a table's text; its bytes. -/
def tailT (L : List En) (q : Nat) : List UInt8 := bytesB (lastK L) ++ bytesB (Bo.encB 3 (filtB L q))
def textT (L : List En) (p q : Nat) : List UInt8 := spellB L.length ++ spellB (cN L.length p) ++ hdN L p 0 (cN L.length p) ++ tailT L q
def tabB (L : List En) (p q : Nat) : List UInt8 := Hn.sealB (textT L p q)

theorem cN_lt {n p i : Nat} (hp : 1 ≤ p) : i < cN n p ↔ i * p < n := by
  unfold cN
  have h := Nat.le_div_iff_mul_le (x := i + 1) (y := n + p - 1) (show 0 < p by omega)
  rw [Nat.add_mul] at h
  constructor
  · intro h1
    have := h.1 h1
    omega
  · intro h1
    exact h.2 (by omega)
theorem cN_pos {n p : Nat} (hp : 1 ≤ p) (hn : 1 ≤ n) : 1 ≤ cN n p := (cN_lt hp).2 (by omega)
theorem cN_le {n p : Nat} (hp : 1 ≤ p) : cN n p ≤ n := by
  rcases Nat.lt_or_ge n (cN n p) with h | h
  · have h1 := (cN_lt hp).1 h
    have := Nat.mul_le_mul_left n hp
    omega
  · exact h
theorem cN_end {n p : Nat} (hp : 1 ≤ p) : n ≤ cN n p * p := by
  rcases Nat.lt_or_ge (cN n p * p) n with h | h
  · have := (cN_lt hp).2 h
    omega
  · exact h
theorem length_chunk (L : List En) (p i : Nat) : (chunk L p i).length = min p (L.length - i * p) := by unfold chunk; rw [List.length_take, List.length_drop]
theorem chunk_at {L : List En} {p i j : Nat} (hj : j < p) : (chunk L p i)[j]? = L[i * p + j]? := by
  unfold chunk
  rw [List.getElem?_take, if_pos hj, List.getElem?_drop]
theorem take_chunk (L : List En) (p i : Nat) : L.take (i * p) ++ chunk L p i = L.take ((i + 1) * p) := by
  unfold chunk
  rw [Nat.add_mul, Nat.one_mul, List.take_add]
theorem keyAt_of {L : List En} {i : Nat} {e : En} (h : L[i]? = some e) : keyAt L i = e.k := by simp [keyAt, List.getD_eq_getElem?_getD, h]
theorem at_of {L : List En} {i : Nat} (h : i < L.length) : ∃ e, L[i]? = some e ∧ keyAt L i = e.k := ⟨_, List.getElem?_eq_getElem h, keyAt_of (List.getElem?_eq_getElem h)⟩
theorem chunk_key {L : List En} {p i : Nat} (hp : 1 ≤ p) (hi : i * p < L.length) : keyAt (chunk L p i) 0 = keyAt L (i * p) := by
  obtain ⟨e, he, hk⟩ := at_of hi
  rw [hk]
  exact keyAt_of (by rw [chunk_at (by omega)]; exact he)
theorem sorted_chunk {L : List En} (h : Sorted L) (p i : Nat) : Sorted (chunk L p i) :=
  List.Pairwise.sublist ((List.take_sublist _ _).trans (List.drop_sublist _ _)) h
theorem key_lt {L : List En} (h : Sorted L) {i j : Nat} (hij : i < j) (hj : j < L.length) : ltB (keyAt L i) (keyAt L j) = true := by
  obtain ⟨a, ha, ka⟩ := at_of (L := L) (i := i) (by omega)
  obtain ⟨b, hb, kb⟩ := at_of (L := L) (i := j) (by omega)
  rw [ka, kb]
  exact Me.sorted_at h hij ha hb
theorem key_le {L : List En} (h : Sorted L) {i j : Nat} (hij : i ≤ j) (hj : j < L.length) : ltB (keyAt L j) (keyAt L i) = false := by
  rcases Nat.lt_or_eq_of_le hij with h1 | rfl
  · exact Me.lt_asymm (key_lt h h1 hj)
  · exact Me.lt_self _

/-- In order: told by each one and the one ahead of it. -/
theorem sorted_of_next : ∀ {L : List En}, (∀ i, i + 1 < L.length → ltB (keyAt L i) (keyAt L (i + 1)) = true) → Sorted L
  | [], _ => List.Pairwise.nil
  | [e], _ => List.pairwise_singleton _ _
  | a :: b :: r, h => by
    have ih : Sorted (b :: r) := sorted_of_next (fun i hi => by
      have := h (i + 1) (by simp at *; omega)
      simpa [keyAt] using this)
    have h0 : ltB a.k b.k = true := by simpa [keyAt] using h 0 (by simp)
    refine List.pairwise_cons.2 ⟨fun x hx => ?_, ih⟩
    rcases List.mem_cons.1 hx with rfl | hx
    · exact h0
    · exact Me.lt_trans h0 (Me.sorted_head ih x hx)

/-- How many parts begin not above a key: those that come first. -/
structure IsJ (L : List En) (p : Nat) (k : List UInt8) (j : Nat) : Prop where
  le : j ≤ cN L.length p
  lo : ∀ i, i < j → ltB k (keyAt L (i * p)) = false
  hi : j < cN L.length p → ltB k (keyAt L (j * p)) = true
theorem IsJ.uniq {L : List En} {p : Nat} {k : List UInt8} {i j : Nat} (h : IsJ L p k i) (h' : IsJ L p k j) : i = j := by
  rcases Nat.lt_trichotomy i j with h1 | h1 | h1
  · have := h.hi (by have := h'.le; omega)
    rw [h'.lo i h1] at this
    cases this
  · exact h1
  · have := h'.hi (by have := h.le; omega)
    rw [h.lo j h1] at this
    cases this
/-- A key's entry is told by that part alone. -/
theorem get_part {L : List En} {p : Nat} {k : List UInt8} {j : Nat} (hp : 1 ≤ p) (hs : Sorted L) (h : IsJ L p k (j + 1)) : getL L k = getL (chunk L p j) k := by
  have hj : j < cN L.length p := by have := h.le; omega
  have hj' := (cN_lt hp).1 hj
  have e1 : L = L.take (j * p) ++ (chunk L p j ++ L.drop ((j + 1) * p)) := by
    rw [← List.append_assoc, take_chunk, List.take_append_drop]
  have hA : ∀ x ∈ L.take (j * p), (x.k == k) = false := by
    intro x hx
    obtain ⟨t, ht, rfl⟩ := List.getElem_of_mem hx
    rw [List.length_take] at ht
    have h1 := key_lt hs (i := t) (j := j * p) (by omega) hj'
    have h2 := h.lo j (by omega)
    have h3 := Me.lt_le h1 h2
    rw [List.getElem_take]
    rw [keyAt_of (List.getElem?_eq_getElem (by omega))] at h3
    simpa using Me.lt_ne h3
  have hB : ∀ x ∈ L.drop ((j + 1) * p), (x.k == k) = false := by
    intro x hx
    obtain ⟨t, ht, rfl⟩ := List.getElem_of_mem hx
    rw [List.length_drop] at ht
    have h0 := h.hi ((cN_lt hp).2 (by omega))
    have h1 := key_le hs (i := (j + 1) * p) (j := (j + 1) * p + t) (by omega) (by omega)
    have h3 := Me.lt_le h0 h1
    rw [List.getElem_drop]
    rw [keyAt_of (L := L) (i := (j + 1) * p + t) (List.getElem?_eq_getElem (by omega))] at h3
    have := Me.lt_ne h3
    simpa using fun e => this e.symm
  conv => lhs; rw [getL, e1]
  rw [Me.find_append _ _ _ hA]
  unfold getL
  rw [List.find?_append, Me.find_none _ _ hB]
  simp
theorem get_before {L : List En} {p : Nat} {k : List UInt8} (hp : 1 ≤ p) (hs : Sorted L) (h : IsJ L p k 0) : getL L k = none := by
  refine Me.find_none _ _ (fun x hx => ?_)
  obtain ⟨t, ht, rfl⟩ := List.getElem_of_mem hx
  have h0 := h.hi (cN_pos hp (by omega))
  rw [Nat.zero_mul] at h0
  have h1 := key_le hs (i := 0) (j := t) (by omega) ht
  have h3 := Me.lt_le h0 h1
  rw [keyAt_of (List.getElem?_eq_getElem ht)] at h3
  have := Me.lt_ne h3
  simpa using fun e => this e.symm
theorem get_behind {L : List En} {k : List UInt8} (hs : Sorted L) (h : ltB (lastK L) k = true) : getL L k = none := by
  refine Me.find_none _ _ (fun x hx => ?_)
  obtain ⟨t, ht, rfl⟩ := List.getElem_of_mem hx
  have h1 := key_le hs (i := t) (j := L.length - 1) (by omega) (by omega)
  have h3 := Me.le_lt h1 h
  rw [keyAt_of (List.getElem?_eq_getElem ht)] at h3
  simpa using Me.lt_ne h3
/-- Whether the filter has it. -/
def mayT (L : List En) (q : Nat) (k : List UInt8) : Bool := Bo.mayB (filtB L q) (Bo.bitsN (q * L.length) 3 k)
theorem get_not {L : List En} {q : Nat} {k : List UInt8} (hq : 1 ≤ q) (h : mayT L q k = false) : getL L k = none := by
  refine Me.find_none _ _ (fun x hx => ?_)
  by_cases e : x.k = k
  · exfalso
    have hl : 1 ≤ L.length := by
      cases L with
      | nil => cases hx
      | cons a r => simp
    have := Bo.may_all (q := 3) (B := List.replicate (q * L.length) false) (by rw [List.length_replicate]; exact Nat.mul_pos (by omega) (by omega)) (ks := keysL L) (k := k) (by rw [← e]; exact List.mem_map_of_mem hx)
    rw [List.length_replicate] at this
    unfold mayT filtB at h
    rw [this] at h
    cases h
  · simpa using e
/-- What is laid is taken off. -/
theorem text_lay (b r : List UInt8) (most : Int) (hb : (b.length : Int) ≤ most) (h2 : b.length ≤ 9223372036854775807) : textB most (bytesB b ++ r) = .ok (b, r) := by
  unfold bytesB
  rw [List.append_assoc, textB_ok (n := b.length) (r := b ++ r) (by omega) (num_spell (by omega) (by unfold M64; omega) _) (by omega) (by rw [List.length_append]; omega), List.take_left', List.drop_left'] <;> rfl
theorem tru_lay (g : Bool) (r : List UInt8) : truB (boolB g ++ r) = .ok (g, r) := by cases g <;> rfl
theorem cnt_lay (n : Nat) (r : List UInt8) (most : Int) (hn : (n : Int) ≤ most) (hm : most ≤ 9223372036854775807) (hr : n ≤ r.length) : cntB most (spellB n ++ r) = .ok ((n : Int), r) :=
  Pk.cntB_ok (num_spell (by omega) (by omega) _) (by omega)
theorem take_text (b r : List UInt8) (most : Int) (hb : (b.length : Int) ≤ most) (h2 : b.length ≤ 9223372036854775807) : takeB (textB most) [] ⟨bytesB b ++ r, 0⟩ = (b, ⟨r, 0⟩) := takeB_ok rfl (text_lay b r most hb h2)
theorem take_tru (g : Bool) (r : List UInt8) : takeB truB false ⟨boolB g ++ r, 0⟩ = (g, ⟨r, 0⟩) := takeB_ok rfl (tru_lay g r)
theorem take_num (n most : Nat) (r : List UInt8) (hn : n < 2 ^ 64) (hm : n ≤ most) : takeB (numB most) 0 ⟨spellB n ++ r, 0⟩ = (n, ⟨r, 0⟩) := takeB_ok rfl (num_spell hn hm _)
theorem take_cnt (n : Nat) (r : List UInt8) (most : Int) (hn : (n : Int) ≤ most) (hm : most ≤ 9223372036854775807) (hr : n ≤ r.length) : takeB (cntB most) 0 ⟨spellB n ++ r, 0⟩ = ((n : Int), ⟨r, 0⟩) := takeB_ok rfl (cnt_lay n r most hn hm hr)
theorem len_bytesB (b : List UInt8) : b.length + 1 ≤ (bytesB b).length ∧ (bytesB b).length ≤ b.length + 9 := by
  have := kOf_le b.length
  unfold bytesB
  rw [List.length_append, length_spellB]
  omega
theorem len_spellB (n : Nat) : 1 ≤ (spellB n).length ∧ (spellB n).length ≤ 9 := by
  have := kOf_le n
  rw [length_spellB]
  omega
theorem len_boolB (g : Bool) : (boolB g).length = 1 := rfl
theorem len_entB (e : En) : 3 ≤ (entB e).length ∧ (entB e).length ≤ e.k.length + (norm e).v.length + 19 := by
  have h1 := len_bytesB e.k
  have h2 := len_bytesB (norm e).v
  unfold entB
  rw [List.length_append, List.length_append, len_boolB]
  omega
theorem len_rowsB : ∀ L : List En, L.length ≤ (rowsB L).length ∧ (rowsB L).length ≤ sizeL L + 19 * L.length
  | [] => by simp [rowsB, sizeL]
  | e :: r => by
    have ih := len_rowsB r
    have h := len_entB e
    have hn := Me.norm_len e
    rw [rowsB_cons, List.length_append, List.length_cons]
    unfold sizeL
    omega
theorem length_partB (L : List En) : (partB L).length ≤ sizeL L + 19 * L.length + 13 := by
  have h1 := len_rowsB L
  have h2 := len_spellB L.length
  unfold partB
  rw [Hn.length_sealB, List.length_append]
  omega
theorem size_split (L : List En) (n : Nat) : sizeL L = sizeL (L.take n) + sizeL (L.drop n) := by rw [← Me.sizeL_append, List.take_append_drop]
theorem size_chunk (L : List En) (p i : Nat) : sizeL (chunk L p i) ≤ sizeL L := by
  have h1 := size_split L (i * p)
  have h2 := size_split (L.drop (i * p)) p
  unfold chunk
  omega
theorem keyAt_le (L : List En) (i : Nat) : (keyAt L i).length ≤ sizeL L := by
  rcases Nat.lt_or_ge i L.length with h | h
  · obtain ⟨e, he, hk⟩ := at_of h
    rw [hk]
    have h1 := size_split L i
    have h2 : L.drop i = e :: L.drop (i + 1) := by
      obtain ⟨h3, h4⟩ := List.getElem?_eq_some_iff.1 he
      rw [List.drop_eq_getElem_cons h3, h4]
    rw [h2] at h1
    simp only [sizeL] at h1
    omega
  · simp [keyAt, List.getD_eq_getElem?_getD, List.getElem?_eq_none h]
/-- The first parts are no longer than their entries, twice, and some more. -/
theorem len_hdN {L : List En} {p : Nat} (hp : 1 ≤ p) : ∀ k, k ≤ cN L.length p → k ≤ (hdN L p 0 k).length ∧ (hdN L p 0 k).length ≤ 2 * sizeL (L.take (k * p)) + 19 * (L.take (k * p)).length + 40 * k
  | 0, _ => by simp [hdN]
  | k + 1, h => by
    have ih := len_hdN (L := L) hp k (by omega)
    have hk := (cN_lt hp).1 (show k < cN L.length p by omega)
    have h1 := len_bytesB (keyAt L (k * p))
    have h2 := len_bytesB (partB (chunk L p k))
    have h3 := length_partB (chunk L p k)
    have h4 : (keyAt L (k * p)).length ≤ sizeL (chunk L p k) := by
      rw [← chunk_key hp hk]
      exact keyAt_le _ _
    have h5 : sizeL (L.take ((k + 1) * p)) = sizeL (L.take (k * p)) + sizeL (chunk L p k) := by rw [← take_chunk, Me.sizeL_append]
    have h6 : (L.take ((k + 1) * p)).length = (L.take (k * p)).length + (chunk L p k).length := by rw [← take_chunk, List.length_append]
    rw [hdN_succ, Nat.zero_add, List.length_append, h5, h6]
    unfold headB
    rw [List.length_append]
    omega
theorem len_encB {B : List Bool} (h : B.length ≤ 1048576) (q : Nat) : (Bo.encB q B).length ≤ B.length / 8 + 28 := by
  have h1 := len_bytesB (Bo.packB B)
  have h2 := len_spellB B.length
  have h3 := len_spellB q
  have h4 := Bo.len_pack B
  unfold Bo.need at h4
  unfold Bo.encB
  rw [List.length_append, List.length_append]
  omega
theorem length_tabB {L : List En} {p q : Nat} (hp : 1 ≤ p) (h : q * L.length ≤ 1048576) : (tabB L p q).length ≤ 3 * sizeL L + 59 * L.length + q * L.length + 80 := by
  have h1 := (len_hdN (L := L) hp (cN L.length p) (Nat.le_refl _)).2
  have h2 := cN_end (n := L.length) hp
  rw [List.take_of_length_le h2] at h1
  have h3 := len_spellB L.length
  have h4 := len_spellB (cN L.length p)
  have h5 := len_bytesB (lastK L)
  have h6 := len_bytesB (Bo.encB 3 (filtB L q))
  have h7 := len_encB (B := filtB L q) (by rw [filtB_len]; exact h) 3
  rw [filtB_len] at h7
  have h8 : (lastK L).length ≤ sizeL L := keyAt_le _ _
  have h9 := cN_le (n := L.length) hp
  unfold tabB
  rw [Hn.length_sealB]
  unfold textT tailT
  simp only [List.length_append]
  omega
end Go.Proofs.YtljlfdhjolcnaaaGreat.Tb

/-
  table: parts in memory, each with its first key; a table in memory.
-/
namespace Go.Proofs.YtljlfdhjolcnaaaGreat.Tb
open Go.RowKit
open Me (En EnS EnO Box enC enV norm ltB Sorted getL posN hasB sizeL)
open Pk (spellB bytesB boolB textB takeB numB cntB truB RS M64 Slc Owns RdAt WrAt)
open Bo (FAt)
set_option maxRecDepth 100000
set_option linter.unusedVariables false

/-- A part in memory: its first key, its bytes and their slice. -/
structure Pc where
  k : List UInt8
  b : List UInt8
  x : Value
def pcC (q : Pc) : List Value := [Me.strV q.k, q.x]
def pcV (q : Pc) : Value := .agg (pcC q).toArray
theorem length_pcC (q : Pc) : (pcC q).length = 2 := rfl
def pcRows (Q : List Pc) : List Value := Q.flatMap pcC
theorem pcRows_snoc (Q : List Pc) (q : Pc) : pcRows (Q ++ [q]) = pcRows Q ++ pcC q := by simp [pcRows]
theorem pcRows_get {q : Pc} {j : Nat} (hj : j < 2) : ∀ (Q : List Pc) (i : Nat), Q[i]? = some q → (pcRows Q)[i * 2 + j]? = (pcC q)[j]?
  | [], i, h => by simp at h
  | x :: Q, 0, h => by
    simp at h
    subst h
    unfold pcRows
    rw [List.flatMap_cons, List.getElem?_append_left (by rw [length_pcC]; omega), Nat.zero_mul, Nat.zero_add]
  | x :: Q, i + 1, h => by
    have ih := pcRows_get hj Q i (by simpa using h)
    unfold pcRows at ih ⊢
    rw [List.flatMap_cons, List.getElem?_append_right (by rw [length_pcC]; omega), length_pcC, ← ih]
    congr 1
    omega
theorem one_pc (q : Pc) (a0 : Option Addr) (n c : Nat) (h : q.x = .slice a0 n c) : ∀ u ∈ pcC q, u.oneCell' = true := by
  intro u hu
  unfold pcC at hu
  rw [h] at hu
  simp at hu
  rcases hu with rfl | rfl <;> rfl
/-- The part of nothing, by value. -/
def zeroP : Value := .agg #[.string ⟨#[]⟩, .slice none 0 0]
theorem info_pc : (Tryz.prog.info? 218).map (fun i => (i.zero, i.size, i.bytes)) = some (some zeroP, 2, 40) := by kernel_rfl
theorem size_pc : (Tryz.prog.info? 218).map (·.size) = some 2 := by
  obtain ⟨i0, hi, _, h, _⟩ := info_parts info_pc
  rw [hi]
  simp [h]
/-- One of them as a whole. -/
theorem run_load_pc {w : World} {g o : Nat} {q : Pc} (hc : ∀ j u, (pcC q)[j]? = some u → w.cell? ⟨g, o + j, none⟩ = some u) : (loadVar 218 ⟨g, o, none⟩).run Tryz.prog w = .ok (pcV q) w :=
  Me.run_loadVar_at w ⟨g, o, none⟩ 218 (pcC q) _ Tryz.underlying218 rfl size_pc (fun j v hv => by rw [add_at]; exact hc j v hv)

/-- Parts of one's own, and their bytes beside them. -/
structure PcOwn (base : Nat) (w : World) (v : Value) (Q : List Pc) : Prop where
  row : w.ownsRow base 218 2 v Q.length (pcRows Q)
  slc : ∀ q ∈ Q, Slc w q.x q.b
  ne : ∀ q ∈ Q, 0 < q.b.length → q.x.ownBlock ≠ v.ownBlock
section
variable {base : Nat} {w : World} {v : Value} {Q : List Pc}
theorem PcOwn.nil (base : Nat) (w : World) : PcOwn base w (.slice none 0 0) [] := ⟨World.ownsRow_nil w base _ _, fun _ hq => (List.not_mem_nil hq).elim, fun _ hq => (List.not_mem_nil hq).elim⟩
theorem PcOwn.form (h : PcOwn base w v Q) : ∃ a c, v = .slice a Q.length c := by
  rcases h.row.2 with ⟨e, hn⟩ | ⟨g, cap, cur, e, _⟩
  · exact ⟨none, 0, by rw [e, hn]⟩
  · exact ⟨_, _, e⟩
theorem PcOwn.lt (h : PcOwn base w v Q) : ∀ k, v.ownBlock = some k → base ≤ k ∧ k < w.heap.size := World.ownsRow.lt h.row
theorem PcOwn.stay {X : Nat → Prop} {w' : World} (h : PcOwn base w v Q) (hs : Stay X w w') (h1 : ∀ k, v.ownBlock = some k → ¬ X k) (h2 : ∀ q ∈ Q, 0 < q.b.length → ∀ k, q.x.ownBlock = some k → ¬ X k) : PcOwn base w' v Q := by
  refine ⟨⟨h.row.1, ?_⟩, fun q hq => ?_, h.ne⟩
  · rcases h.row.2 with h' | ⟨g, cap, cur, rfl, hb, hg, r⟩
    · exact .inl h'
    · exact .inr ⟨g, cap, cur, rfl, hb, (hs.block g (Array.getElem?_eq_some_iff.1 hg).1 (h1 g rfl)).trans hg, r⟩
  · obtain ⟨a0, c, e, hr, hn⟩ := h.slc q hq
    refine ⟨a0, c, e, hr.stay hs (fun h0 ad ha => h2 q hq h0 ad.block (by rw [e, ha]; rfl)), hn⟩
theorem PcOwn.stay0 {w' : World} (h : PcOwn base w v Q) (hs : Stay (fun _ => False) w w') : PcOwn base w' v Q := h.stay hs (fun _ _ x => x) (fun _ _ _ _ _ x => x)
end

/-- A slice of the parts of entries. -/
structure PcAt (w : World) (v : Value) (L : List En) (p : Nat) : Prop where
  ex : ∃ g c, v = .slice (some ⟨g, 0, none⟩) (cN L.length p) c ∧ ∀ i, i < cN L.length p → w.cell? ⟨g, i * 2, none⟩ = some (Me.strV (keyAt L (i * p))) ∧ ∃ x, w.cell? ⟨g, i * 2 + 1, none⟩ = some x ∧ Slc w x (partB (chunk L p i))
theorem PcAt.stay0 {w w' : World} {v : Value} {L : List En} {p : Nat} (h : PcAt w v L p) (hs : Stay (fun _ => False) w w') : PcAt w' v L p := by
  obtain ⟨g, c, e, hc⟩ := h.ex
  refine ⟨g, c, e, fun i hi => ?_⟩
  obtain ⟨h1, x, h2, h3⟩ := hc i hi
  exact ⟨hs.cell h1 (fun x => x), x, hs.cell h2 (fun x => x), h3.stay0 hs⟩
/-- Those that one owns are of that kind. -/
theorem PcOwn.at {base : Nat} {w : World} {v : Value} {Q : List Pc} {L : List En} {p : Nat} (h : PcOwn base w v Q) (hn : Q.length = cN L.length p) (h0 : 0 < Q.length) (hq : ∀ i q, Q[i]? = some q → q.k = keyAt L (i * p) ∧ q.b = partB (chunk L p i)) : PcAt w v L p := by
  have hc := fun g hg => World.ownsRow.cells (g := g) h.row hg
  rcases h.row.2 with ⟨e, hn⟩ | ⟨g, cap, cur, e, _, _, h1, h2, _⟩
  · omega
  · refine ⟨g, cap, by rw [e, hn], fun i hi => ?_⟩
    subst e
    obtain ⟨q, hqi⟩ : ∃ q, Q[i]? = some q := ⟨_, List.getElem?_eq_getElem (by omega)⟩
    obtain ⟨e1, e2⟩ := hq i q hqi
    have g0 := hc g rfl (i * 2 + 0) _ (by rw [pcRows_get (by omega) Q i hqi]; rfl)
    have g1 := hc g rfl (i * 2 + 1) _ (by rw [pcRows_get (by omega) Q i hqi]; rfl)
    rw [add_at, Nat.zero_add] at g0 g1
    rw [Nat.add_zero, e1] at g0
    exact ⟨g0, q.x, g1, e2 ▸ h.slc q (List.mem_of_getElem? hqi)⟩

/-- A table in memory: the one of entries, so many a part, so many bits an entry. -/
structure TAt (w : World) (t : Nat) (L : List En) (p q : Nat) : Prop where
  ex : ∃ v pf gf, w.heap[t]? = some (.cells #[.int .i64 (L.length : Int), v, Me.strV (lastK L), .pointer (some ⟨pf, 0, none⟩)] 172 (0, 0)) ∧ PcAt w v L p ∧ FAt w pf gf 3 (filtB L q)
  p1 : 1 ≤ p
  q1 : 1 ≤ q
  n1 : 1 ≤ L.length
  n2 : L.length ≤ 1000000
  srt : Sorted L
  nrm : ∀ e ∈ L, norm e = e
  sz : sizeL L ≤ 1000000000
section
variable {w w' : World} {t p q : Nat} {L : List En}
theorem TAt.stay0 (h : TAt w t L p q) (hs : Stay (fun _ => False) w w') : TAt w' t L p q := by
  obtain ⟨v, pf, gf, h1, h2, h3⟩ := h.ex
  exact ⟨⟨v, pf, gf, (hs.block t (Array.getElem?_eq_some_iff.1 h1).1 (fun x => x)).trans h1, h2.stay0 hs, h3.stay0 hs⟩, h.p1, h.q1, h.n1, h.n2, h.srt, h.nrm, h.sz⟩
theorem TAt.lt (h : TAt w t L p q) : t < w.heap.size := by
  obtain ⟨v, pf, gf, h1, _⟩ := h.ex
  exact (Array.getElem?_eq_some_iff.1 h1).1
end
end Go.Proofs.YtljlfdhjolcnaaaGreat.Tb

/-
  table: whether entries are in order; how many entries and parts; the first key and the last one.
-/
namespace Go.Proofs.YtljlfdhjolcnaaaGreat.Tb
open Go.RowKit
open Me (En EnS EnO Box enC enV norm ltB Sorted getL posN hasB sizeL)
open Bo (FAt)
set_option maxRecDepth 100000
set_option linter.unusedVariables false

theorem keyOf_any (w : World) (e : En) : Calls Tryz.prog 100 #[enV e] w fun x w' => x = .returned (.string ⟨e.k.toArray⟩) ∧ Stay (fun _ => False) w w' := by
  have h2 := (Box.new w e).c (j := 0) rfl
  have H2 := Lib.hid (show Stay (fun _ => False) w (w.alloc (.cells (enC e).toArray 42)) from Stay.alloc _ _)
  unfold enV enC at *
  go_enter Tryz.func100, Tryz.ntmps100
  go_wp2
  go_ret
  exact ⟨rfl, H2.out⟩

/-- Not above, as the walk shows it. -/
theorem leq_not (p q : List UInt8) : (Op.bytesLess q p || q == p) = !(ltB p q) := by
  rw [Me.less_eq]
  cases h : ltB p q with
  | true =>
    rw [Me.lt_asymm h]
    simpa using fun e => Me.lt_ne h e.symm
  | false =>
    cases h2 : ltB q p with
    | true => rfl
    | false => rw [Me.lt_one h h2]; simp

/-- Whether each key is above the one ahead of it, up to the n-th. -/
def upB (L : List En) (n : Nat) : Prop := ∀ i, i + 1 < n → ltB (keyAt L i) (keyAt L (i + 1)) = true
theorem upB_all {L : List En} : upB L L.length ↔ Sorted L :=
  ⟨sorted_of_next, fun h i hi => key_lt h (by omega) hi⟩
instance (L : List En) : Decidable (Sorted L) := inferInstanceAs (Decidable (List.Pairwise _ L))

set_option maxHeartbeats 4000000 in
theorem asc_any (w : World) (x : Value) (L : List En) (hx : EnS w x L) (hl : L.length ≤ 1000000) :
    Calls Tryz.prog 99 #[x, .func (.func 100) #[] #[]] w fun e w' => e = .returned (.bool (decide (Sorted L))) ∧ Stay (fun _ => False) w w' := by
  have HX := Lib.hid hx
  obtain ⟨a0, c, rfl⟩ := hx.form
  obtain ⟨R, hR⟩ : ∃ R, R = decide (Sorted L) := ⟨_, rfl⟩
  have HT := Lib.hid (show upB L L.length → R = true by intro h; rw [hR]; exact decide_eq_true (upB_all.1 h))
  have HF := Lib.hid (show ∀ i, i + 1 < L.length → ltB (keyAt L i) (keyAt L (i + 1)) = false → R = false by
    intro i hi h
    rw [hR]
    refine decide_eq_false (fun hs => ?_)
    rw [upB_all.2 hs i hi] at h
    cases h)
  rw [← hR]
  have hlc : (L.length : Int) ≤ 1000000 := by omega
  clear hx hR hl
  go_enter Tryz.func99, Tryz.ntmps99
  go_wp2
  go_loopw [5] (fun i wr => ∃ k : Nat, i = .int .i64 ((k : Int) + 1) ∧ (k ≤ L.length) ∧ Hid (upB L (k + 1)) ∧ Stay (fun _ => False) w wr) (fun i _ => L.length + 1 - (intOf i).toNat)
  case atStart => exact ⟨0, rfl, Nat.zero_le _, Lib.hid (fun i hi => by omega), Stay.refl _ _⟩
  case round =>
    obtain ⟨k, rfl, hk, hb, hst⟩ := hrel
    have HS := Lib.hid hst
    clear hst
    by_cases hlt : k + 1 < L.length
    · obtain ⟨e1, he1, hk1⟩ := at_of (L := L) (i := k) (by omega)
      obtain ⟨e2, he2, hk2⟩ := at_of (L := L) (i := k + 1) hlt
      obtain ⟨g, o, rfl, _, hc⟩ := (HX.out.stay0 HS.out).at (by omega)
      obtain ⟨c0, c1, c2⟩ := hc _ e1 he1
      obtain ⟨d0, d1, d2⟩ := hc _ e2 he2
      obtain ⟨D, hDd⟩ : ∃ D : World → Prop, D = Stay (fun _ => False) wr := ⟨_, rfl⟩
      have HD := Lib.hid (show ∀ W, D W → Stay (fun _ => False) wr W by intro W h; rw [hDd] at h; exact h)
      have HDm := Lib.hid (show ∀ W, Stay (fun _ => False) wr W → D W by intro W h; rw [hDd]; exact h)
      clear hDd
      have HN0 := Lib.hid (HDm.out _ (Stay.drew (w := wr)))
      have k1 := fun i : InC D => Me.run_load_at ((HD.out _ i.h).cell c0 (fun x => x)) ((HD.out _ i.h).cell c1 (fun x => x)) ((HD.out _ i.h).cell c2 (fun x => x))
      have k2 := fun i : InC D => Me.run_load_at ((HD.out _ i.h).cell d0 (fun x => x)) ((HD.out _ i.h).cell d1 (fun x => x)) ((HD.out _ i.h).cell d2 (fun x => x))
      have H1 := Lib.hid (show ∀ W, D W → Calls Tryz.prog 100 #[enV e1] W fun e w' => e = .returned (.string ⟨e1.k.toArray⟩) ∧ D w' from fun W h => (keyOf_any W e1).mono fun e w' ⟨h1, h2⟩ => ⟨h1, HDm.out _ ((HD.out _ h).trans h2)⟩)
      have H2 := Lib.hid (show ∀ W, D W → Calls Tryz.prog 100 #[enV e2] W fun e w' => e = .returned (.string ⟨e2.k.toArray⟩) ∧ D w' from fun W h => (keyOf_any W e2).mono fun e w' ⟨h1, h2⟩ => ⟨h1, HDm.out _ ((HD.out _ h).trans h2)⟩)
      have K1 := Lib.hid hk1
      have K2 := Lib.hid hk2
      clear hc c0 c1 c2 d0 d1 d2 he1 he2 hk1 hk2
      haveI : Nonempty (InC D) := ⟨⟨_, HN0.out⟩⟩
      go_wp2
      refine wp_region_class D HN0.out (by kernel_rfl) (by kernel_rfl) ?_
      repeat (go_big_quiet_step ((first
        | with_reducible exact calls_class H1.out
        | with_reducible exact calls_class H2.out)))
      refine quiet_load rfl 42 (.tmp 15) rfl ⟨g, o + (k + 1) * 3, none⟩ rfl _ k2 ?_
      go_frame
      repeat (go_big_quiet_step ((first
        | with_reducible exact calls_class H1.out
        | with_reducible exact calls_class H2.out)))
      refine quiet_load rfl 42 (.tmp 22) rfl ⟨g, o + k * 3, none⟩ rfl _ k1 ?_
      go_frame
      repeat (go_big_quiet_step ((first
        | with_reducible exact calls_class H1.out
        | with_reducible exact calls_class H2.out)))
      refine wpQuiet_nil ?_
      rintro W ⟨i, rfl⟩
      have hst := HD.out _ i.h
      clear k1 k2
      generalize i.w = w9 at *
      have HS9 := Lib.hid (HS.out.trans hst)
      clear hst
      rw [leq_not]
      cases hlt3 : ltB e1.k e2.k with
      | true =>
        have HB := Lib.hid (show upB L (k + 1 + 1) from fun i hi => by
          by_cases h : i = k
          · subst h; rw [K1.out, K2.out]; exact hlt3
          · exact hb.out i (by omega))
        clear hlt3
        rw [show (!true) = false from rfl]
        go_wp2
        go_roundw
        case rel => exact ⟨k + 1, by go_num, by omega, HB, HS9.out⟩
        case measure => simp [intOf]; omega
      | false =>
        have hu := HF.out k hlt (by rw [K1.out, K2.out]; exact hlt3)
        clear hlt3
        subst hu
        rw [show (!false) = true from rfl]
        go_wp2
        go_ret
        exact ⟨rfl, HS9.out⟩
    · have hu := HT.out (fun i hi => hb.out i (by omega))
      subst hu
      go_wp2
      go_ret
      exact ⟨rfl, HS.out⟩

/-- How many entries, how many parts, the last key. -/
theorem TAt.c0 {w : World} {t p q : Nat} {L : List En} (h : TAt w t L p q) : w.cell? ⟨t, 0, none⟩ = some (.int .i64 (L.length : Int)) := by
  obtain ⟨v, pf, gf, h1, _⟩ := h.ex
  rw [cell_of_row w t 0 _ _ _ h1]; rfl
theorem TAt.c2 {w : World} {t p q : Nat} {L : List En} (h : TAt w t L p q) : w.cell? ⟨t, 2, none⟩ = some (.string ⟨(lastK L).toArray⟩) := by
  obtain ⟨v, pf, gf, h1, _⟩ := h.ex
  rw [cell_of_row w t 2 _ _ _ h1]; rfl
theorem len_any (w : World) (t p q : Nat) (L : List En) (h : TAt w t L p q) : Calls Tryz.prog 189 #[.pointer (some ⟨t, 0, none⟩)] w fun e w' => e = .returned (.int .i64 (L.length : Int)) ∧ w = w' := by
  have hc := h.c0
  go_enter Tryz.func189, Tryz.ntmps189
  go_wp2
  go_ret
  exact ⟨rfl, rfl⟩
theorem parts_any (w : World) (t p q : Nat) (L : List En) (h : TAt w t L p q) : Calls Tryz.prog 114 #[.pointer (some ⟨t, 0, none⟩)] w fun e w' => e = .returned (.int .i64 (cN L.length p : Nat)) ∧ w = w' := by
  obtain ⟨v, pf, gf, h1, h2, _⟩ := h.ex
  obtain ⟨g, c, rfl, hc⟩ := h2.ex
  have hc : w.cell? ⟨t, 1, none⟩ = some (.slice (some ⟨g, 0, none⟩) (cN L.length p) c) := by rw [cell_of_row w t 1 _ _ _ h1]; rfl
  generalize cN L.length p = n at *
  clear h1 h2
  go_enter Tryz.func114, Tryz.ntmps114
  go_wp2
  go_ret
  exact ⟨rfl, rfl⟩
end Go.Proofs.YtljlfdhjolcnaaaGreat.Tb

/-
  table: sort.Search, for any closure over two boxes that tells one way from some place on; the two closures.
-/
namespace Go.Proofs.YtljlfdhjolcnaaaGreat.Tb
open Go.RowKit
open Me (En EnS EnO Box enC enV norm ltB Sorted getL posN hasB sizeL)
open Bo (FAt)
set_option maxRecDepth 100000
set_option linter.unusedVariables false

/-- Where it begins to be so. -/
structure From (n : Nat) (f : Nat → Bool) (j : Nat) : Prop where
  le : j ≤ n
  lo : ∀ i, i < j → f i = false
  hi : ∀ i, j ≤ i → i < n → f i = true

set_option maxHeartbeats 4000000 in
theorem search_get (n : Nat) (f : Nat → Bool) (p1 p2 : Value) (w : World) (hn : n ≤ 1000000) (hm : ∀ i j, i ≤ j → j < n → f i = true → f j = true)
    (hc : ∀ W, Stay (fun _ => False) w W → ∀ i : Nat, i < n → Calls Tryz.prog 154 #[.int .i64 (i : Int), p1, p2] W fun e w' => e = .returned (.bool (f i)) ∧ Stay (fun _ => False) W w') :
    Calls Tryz.prog 113 #[.int .i64 (n : Int), .func (.func 154) #[] #[p1, p2]] w fun e w' => (∃ j : Nat, e = .returned (.int .i64 (j : Int)) ∧ From n f j) ∧ Stay (fun _ => False) w w' := by
  have HC := Lib.hid hc
  have HM := Lib.hid hm
  have hcm : (n : Int) ≤ 1000000 := by omega
  clear hc hm hn
  go_enter Tryz.func113, Tryz.ntmps113
  go_wp2
  go_loopw [5, 6] (fun i j wr => ∃ lo hi : Nat, i = .int .i64 (lo : Int) ∧ j = .int .i64 (hi : Int) ∧ lo ≤ hi ∧ hi ≤ n ∧ Hid (∀ t, t < lo → f t = false) ∧ Hid (∀ t, hi ≤ t → t < n → f t = true) ∧ Stay (fun _ => False) w wr) (fun i j _ => (intOf j).toNat - (intOf i).toNat)
  case atStart => exact ⟨0, n, rfl, rfl, Nat.zero_le _, Nat.le_refl _, Lib.hid (fun t ht => by omega), Lib.hid (fun t h1 h2 => by omega), Stay.refl _ _⟩
  case round =>
    obtain ⟨lo, hi, rfl, rfl, hle, hlen, hlo, hhi, hst⟩ := hrel
    have HT := Lib.hid hst
    clear hst
    by_cases hlt : lo < hi
    · have HCC := Lib.hid (HC.out wr HT.out ((lo + hi) / 2) (by omega))
      obtain ⟨b, hb⟩ : ∃ b, f ((lo + hi) / 2) = b := ⟨_, rfl⟩
      rw [hb] at HCC
      have HB := Lib.hid hb
      clear hb
      go_wp2_with fail
      refine HCC.out.mono ?_
      rintro e w2 ⟨rfl, s2⟩
      have HT2 := Lib.hid (HT.out.trans s2)
      clear s2
      cases b with
      | true =>
        have H2 := Lib.hid (show ∀ t, (lo + hi) / 2 ≤ t → t < n → f t = true from fun t h1 h2 => HM.out _ t h1 h2 HB.out)
        go_wp2
        refine ⟨⟨lo, (lo + hi) / 2, rfl, rfl, by omega, by omega, hlo, H2, HT2.out⟩, by simp [intOf]; omega⟩
      | false =>
        have H2 := Lib.hid (show ∀ t, t < (lo + hi) / 2 + 1 → f t = false from fun t h1 => by
          cases h : f t with
          | false => rfl
          | true => have := HM.out t ((lo + hi) / 2) (by omega) (by omega) h; rw [HB.out] at this; cases this)
        go_wp2
        refine ⟨⟨(lo + hi) / 2 + 1, hi, by go_num, rfl, by omega, by omega, H2, hhi, HT2.out⟩, by simp [intOf]; omega⟩
    · obtain rfl : lo = hi := by omega
      go_wp2
      go_ret
      exact ⟨⟨lo, rfl, ⟨hlen, hlo.out, hhi.out⟩⟩, HT.out⟩

set_option maxHeartbeats 4000000 in
theorem search_find (n : Nat) (f : Nat → Bool) (p1 p2 : Value) (w : World) (hn : n ≤ 1000000) (hm : ∀ i j, i ≤ j → j < n → f i = true → f j = true)
    (hc : ∀ W, Stay (fun _ => False) w W → ∀ i : Nat, i < n → Calls Tryz.prog 168 #[.int .i64 (i : Int), p1, p2] W fun e w' => e = .returned (.bool (f i)) ∧ Stay (fun _ => False) W w') :
    Calls Tryz.prog 113 #[.int .i64 (n : Int), .func (.func 168) #[] #[p1, p2]] w fun e w' => (∃ j : Nat, e = .returned (.int .i64 (j : Int)) ∧ From n f j) ∧ Stay (fun _ => False) w w' := by
  have HC := Lib.hid hc
  have HM := Lib.hid hm
  have hcm : (n : Int) ≤ 1000000 := by omega
  clear hc hm hn
  go_enter Tryz.func113, Tryz.ntmps113
  go_wp2
  go_loopw [5, 6] (fun i j wr => ∃ lo hi : Nat, i = .int .i64 (lo : Int) ∧ j = .int .i64 (hi : Int) ∧ lo ≤ hi ∧ hi ≤ n ∧ Hid (∀ t, t < lo → f t = false) ∧ Hid (∀ t, hi ≤ t → t < n → f t = true) ∧ Stay (fun _ => False) w wr) (fun i j _ => (intOf j).toNat - (intOf i).toNat)
  case atStart => exact ⟨0, n, rfl, rfl, Nat.zero_le _, Nat.le_refl _, Lib.hid (fun t ht => by omega), Lib.hid (fun t h1 h2 => by omega), Stay.refl _ _⟩
  case round =>
    obtain ⟨lo, hi, rfl, rfl, hle, hlen, hlo, hhi, hst⟩ := hrel
    have HT := Lib.hid hst
    clear hst
    by_cases hlt : lo < hi
    · have HCC := Lib.hid (HC.out wr HT.out ((lo + hi) / 2) (by omega))
      obtain ⟨b, hb⟩ : ∃ b, f ((lo + hi) / 2) = b := ⟨_, rfl⟩
      rw [hb] at HCC
      have HB := Lib.hid hb
      clear hb
      go_wp2_with fail
      refine HCC.out.mono ?_
      rintro e w2 ⟨rfl, s2⟩
      have HT2 := Lib.hid (HT.out.trans s2)
      clear s2
      cases b with
      | true =>
        have H2 := Lib.hid (show ∀ t, (lo + hi) / 2 ≤ t → t < n → f t = true from fun t h1 h2 => HM.out _ t h1 h2 HB.out)
        go_wp2
        refine ⟨⟨lo, (lo + hi) / 2, rfl, rfl, by omega, by omega, hlo, H2, HT2.out⟩, by simp [intOf]; omega⟩
      | false =>
        have H2 := Lib.hid (show ∀ t, t < (lo + hi) / 2 + 1 → f t = false from fun t h1 => by
          cases h : f t with
          | false => rfl
          | true => have := HM.out t ((lo + hi) / 2) (by omega) (by omega) h; rw [HB.out] at this; cases this)
        go_wp2
        refine ⟨⟨(lo + hi) / 2 + 1, hi, by go_num, rfl, by omega, by omega, H2, hhi, HT2.out⟩, by simp [intOf]; omega⟩
    · obtain rfl : lo = hi := by omega
      go_wp2
      go_ret
      exact ⟨⟨lo, rfl, ⟨hlen, hlo.out, hhi.out⟩⟩, HT.out⟩

/-- Above, as the walk shows it. -/
theorem gtr_is (p q : List UInt8) : (!Op.bytesLess q p && !q == p) = ltB p q := by
  have h := leq_not p q
  cases h1 : Op.bytesLess q p <;> cases h2 : (q == p) <;> cases h3 : ltB p q <;> simp_all
theorem get1_any (w : World) (b1 b2 : Nat) (x : Value) (l : List En) (k : List UInt8) (i : Nat) (h1 : w.cell? ⟨b1, 0, none⟩ = some x) (h2 : w.cell? ⟨b2, 0, none⟩ = some (.string ⟨k.toArray⟩)) (hx : EnS w x l) (hi : i < l.length) (hl : l.length ≤ 1000000) :
    Calls Tryz.prog 154 #[.int .i64 (i : Int), .pointer (some ⟨b1, 0, none⟩), .pointer (some ⟨b2, 0, none⟩)] w fun e w' => e = .returned (.bool (!ltB (keyAt l i) k)) ∧ Stay (fun _ => False) w w' := by
  obtain ⟨a0, c, rfl⟩ := hx.form
  obtain ⟨e, he, hk⟩ := at_of hi
  obtain ⟨g, o, rfl, _, hc⟩ := hx.at (by omega)
  have h0 := (hc _ e he).1
  rw [hk]
  have hcm : (l.length : Int) ≤ 1000000 := by omega
  rw [← Me.less_eq]
  clear hc hx he hk hl
  go_enter Tryz.func154, Tryz.ntmps154
  go_wp2
  go_quiet (fail)
  go_wp2
  go_ret
  exact ⟨rfl, Pk.stay_drewN _ _⟩

theorem find1_any (w : World) (b1 b2 t p q : Nat) (L : List En) (k : List UInt8) (i : Nat) (h1 : w.cell? ⟨b1, 0, none⟩ = some (.pointer (some ⟨t, 0, none⟩))) (h2 : w.cell? ⟨b2, 0, none⟩ = some (.string ⟨k.toArray⟩)) (h : TAt w t L p q) (hi : i < cN L.length p) :
    Calls Tryz.prog 168 #[.int .i64 (i : Int), .pointer (some ⟨b1, 0, none⟩), .pointer (some ⟨b2, 0, none⟩)] w fun e w' => e = .returned (.bool (ltB k (keyAt L (i * p)))) ∧ Stay (fun _ => False) w w' := by
  have hle := cN_le (n := L.length) h.p1
  have hn2 := h.n2
  obtain ⟨v, pf, gf, hb, hpc, _⟩ := h.ex
  obtain ⟨g, c, rfl, hc⟩ := hpc.ex
  have h0 := (hc i hi).1
  have hc : w.cell? ⟨t, 1, none⟩ = some (.slice (some ⟨g, 0, none⟩) (cN L.length p) c) := by rw [cell_of_row w t 1 _ _ _ hb]; rfl
  have hcm : (cN L.length p : Int) ≤ 1000000 := by omega
  generalize cN L.length p = n at *
  clear hb hpc h hle
  go_enter Tryz.func168, Tryz.ntmps168
  go_wp2
  go_quiet (fail)
  go_wp2
  go_ret
  exact ⟨by rw [← gtr_is]; rfl, Pk.stay_drewN _ _⟩
end Go.Proofs.YtljlfdhjolcnaaaGreat.Tb

/-
  table: the filter of entries; a part as bytes.
-/
namespace Go.Proofs.YtljlfdhjolcnaaaGreat.Tb
open Go.RowKit
open Pk (stay_seal)
open Me (En EnS EnO Box enC enV norm ltB Sorted getL posN hasB sizeL)
open Pk (spellB bytesB boolB Slc Owns WrAt)
open Bo (FAt)
set_option maxRecDepth 100000
set_option linter.unusedVariables false

/-- Keys and values that are not too long. -/
def Fit (L : List En) : Prop := ∀ e ∈ L, e.k.length + 1 ≤ 140737488355328
theorem fit_of {L : List En} (h : sizeL L ≤ 100000000000000) : Fit L := by
  intro e he
  obtain ⟨i, hi, rfl⟩ := List.getElem_of_mem he
  have h1 := keyAt_le L i
  rw [keyAt_of (List.getElem?_eq_getElem hi)] at h1
  omega
theorem keysL_succ {L : List En} {i : Nat} {e : En} (he : L[i]? = some e) : keysL (L.take (i + 1)) = keysL (L.take i) ++ [e.k] := by
  obtain ⟨h1, h2⟩ := List.getElem?_eq_some_iff.1 he
  rw [List.take_succ_eq_append_getElem h1, h2]
  simp [keysL]

set_option maxHeartbeats 4000000 in
theorem filterOf_any (w : World) (x : Value) (L : List En) (q : Nat) (hx : EnS w x L) (hf : Fit L) (hq : 1 ≤ q) (hn : 1 ≤ L.length) (hqn : q * L.length ≤ 1048576) (hl : L.length ≤ 1000000) (hq2 : q ≤ 1000) :
    Calls Tryz.prog 101 #[x, .int .i64 (q : Int)] w fun e w' => ∃ pf gf, e = .returned (.tuple #[.pointer (some ⟨pf, 0, none⟩), .nilIface]) ∧ FAt w' pf gf 3 (filtB L q) ∧ Stay (fun _ => False) w w' := by
  have HX := Lib.hid hx
  have HFT := Lib.hid hf
  obtain ⟨a0, c, rfl⟩ := hx.form
  have HEQ := Lib.hid (show filtB L q = Bo.addAll 3 (List.replicate (q * L.length) false) (keysL (L.take L.length)) by rw [List.take_length]; rfl)
  have hcm : (L.length : Int) ≤ 1000000 := by omega
  have hcq : (q : Int) ≤ 1000 := by omega
  have hp1 : 1 ≤ q * L.length := Nat.mul_pos hq hn
  obtain ⟨s, hs⟩ : ∃ s, s = q * L.length := ⟨_, rfl⟩
  have HSS := Lib.hid (show (q : Int) * (L.length : Int) = (s : Int) by rw [hs]; simp)
  have hwr : wrap64 ((q : Int) * (L.length : Int)) = (s : Int) := by rw [HSS.out]; exact Bo.wrap_small _ (by omega) (by omega)
  rw [← hs] at hqn hp1 HEQ
  have HWR := Lib.hid hwr
  have HN := Lib.hid (Bo.new_any s 3 w hp1 hqn (by decide) (by decide))
  clear hx hf hs hwr hl hq2
  go_enter Tryz.func101, Tryz.ntmps101
  go_wp2_with fail
  rw [HWR.out]
  refine HN.out.mono ?_
  rintro e w1 ⟨pf, gf, rfl, hpl, hgl, hf1, hs1⟩
  have HF1 := Lib.hid hf1
  have HS1 := Lib.hid hs1
  clear hf1 hs1
  go_wp2
  go_loopw [23] (fun i wr => ∃ j : Nat, j ≤ L.length ∧ i = .int .i64 (j : Int) ∧ Hid (FAt wr pf gf 3 (Bo.addAll 3 (List.replicate s false) (keysL (L.take j)))) ∧ Stay (fun _ => False) w wr) (fun i _ => L.length - (intOf i).toNat)
  case atStart => exact ⟨0, Nat.zero_le _, rfl, HF1, HS1.out⟩
  case round =>
    obtain ⟨j, hj, rfl, hfa, hst⟩ := hrel
    have HT := Lib.hid hst
    clear hst
    by_cases hlt : j < L.length
    · obtain ⟨e, he⟩ : ∃ e, L[j]? = some e := ⟨_, List.getElem?_eq_getElem (by omega)⟩
      obtain ⟨g, o, rfl, _, hc⟩ := (HX.out.stay0 HT.out).at (by omega)
      obtain ⟨h0, h1, h2⟩ := hc _ e he
      have kl := Lib.hid (Me.run_load_at h0 h1 h2)
      have HK := Lib.hid (show Bo.addAll 3 (List.replicate s false) (keysL (L.take (j + 1))) = Bo.addK 3 (Bo.addAll 3 (List.replicate s false) (keysL (L.take j))) e.k by rw [keysL_succ he, Bo.addAll_snoc])
      have HFE := Lib.hid (HFT.out e (List.mem_of_getElem? he))
      have HBX := Lib.hid (Box.new wr ⟨[], [], false⟩)
      have HA := Lib.hid (show Stay (fun _ => False) wr (wr.alloc (.cells (enC ⟨[], [], false⟩).toArray 42)) from Stay.alloc _ _)
      clear he hc h0 h1 h2
      generalize Bo.addAll 3 (List.replicate s false) (keysL (L.take j)) = B at *
      go_wp2_with (first
        | (refine Me.wpList_load_run (by rfl) 42 (.tmp 25) rfl ⟨g, o + j * 3, none⟩ rfl _ kl.out ?_)
        | (with_reducible refine Me.alloc_en rfl rfl ?_)
        | (refine Box.store HBX.out rfl (.tmp 9) (.tmp 26) rfl rfl e rfl ?_
           intro w3 hb3 hs3
           have c0 := hb3.c (j := 0) rfl
           have HS3 := Lib.hid (stay_seal (HA.out.mono (fun _ x => x.elim) |>.trans hs3) (fun k hk => by have hk' : k = wr.heap.size := hk; omega))
           clear hb3 hs3))
      refine (Bo.add_any w3 pf gf 3 B e.k (hfa.out.stay0 HS3.out) HFE.out).mono ?_
      rintro e' w4 ⟨rfl, hf4, hs4⟩
      have HF4 := Lib.hid hf4
      have HT4 := Lib.hid (show Stay (fun _ => False) w w4 from stay_seal (X := fun k => w.heap.size ≤ k) (((HT.out.trans HS3.out).mono (fun _ x => x.elim)).trans (hs4.mono (fun k hk => by have hk' : k = gf := hk; omega))) (fun k hk => hk))
      clear hf4 hs4
      go_wp2
      go_roundw
      case rel => exact ⟨j + 1, hlt, by go_num, by rw [HK.out]; exact HF4, HT4.out⟩
      case measure => simp [intOf]; omega
    · obtain rfl : j = L.length := by omega
      rw [← HEQ.out] at hfa
      go_wp2
      go_ret2
      exact ⟨pf, gf, rfl, hfa.out, HT.out⟩
end Go.Proofs.YtljlfdhjolcnaaaGreat.Tb

/-
  table: a part as bytes.
-/
namespace Go.Proofs.YtljlfdhjolcnaaaGreat.Tb
open Go.RowKit
open Pk (stay_seal)
open Me (En EnS EnO Box enC enV norm ltB Sorted getL posN hasB sizeL)
open Pk (spellB bytesB boolB Slc Owns WrAt Cl)
set_option maxRecDepth 100000
set_option linter.unusedVariables false

theorem rows_le (L : List En) (j : Nat) : (rowsB (L.take j)).length ≤ (rowsB L).length := by
  have : rowsB L = rowsB (L.take j) ++ rowsB (L.drop j) := by rw [← rowsB_append, List.take_append_drop]
  rw [this, List.length_append]
  omega
theorem rows_take {L : List En} {j : Nat} {e : En} (he : L[j]? = some e) : rowsB (L.take (j + 1)) = rowsB (L.take j) ++ entB e := by
  obtain ⟨h1, h2⟩ := List.getElem?_eq_some_iff.1 he
  rw [List.take_succ_eq_append_getElem h1, h2, rowsB_snoc]

set_option maxHeartbeats 4000000 in
theorem layPart_any (w : World) (x : Value) (L : List En) (hx : EnS w x L) (hl : L.length ≤ 1000000) (hz : sizeL L ≤ 100000000000000) :
    Calls Tryz.prog 136 #[x] w fun e w' => ∃ v, e = .returned v ∧ Owns w.heap.size w' v (partB L) ∧ Stay (fun _ => False) w w' := by
  have HX := Lib.hid hx
  obtain ⟨a0, c, rfl⟩ := hx.form
  have hrl := (len_rowsB L).2
  have hsp := (len_spellB L.length).2
  have hcm : (L.length : Int) ≤ 1000000 := by omega
  have HRL := Lib.hid (show (spellB L.length ++ rowsB L).length + 100 ≤ 110000000000000 by rw [List.length_append]; omega)
  have HW := Lib.hid (Pk.WrAt.new w)
  have HA := Lib.hid (show Stay (fun _ => False) w (w.alloc (.cells #[.slice none 0 0] 138)) from Stay.alloc _ _)
  clear hx hl hz hrl hsp
  go_enter Tryz.func136, Tryz.ntmps136
  go_wp2_with fail
  refine (Pk.new_any w).mono ?_
  rintro e w1 ⟨rfl, hw1⟩
  have HW1 := Lib.hid (show WrAt (fun k => w.heap.size ≤ k) w1 w.heap.size [] from hw1 ▸ HW.out)
  have HA1 := Lib.hid (show Stay (fun _ => False) w w1 from hw1 ▸ HA.out)
  clear HW HA hw1
  go_wp2_with fail
  refine (Pk.uint_at' w.heap.size w1 w.heap.size [] L.length _ (by omega) HW1.out (by omega) (by simp)).mono ?_
  rintro e w2 ⟨rfl, hw2, hs2⟩
  rw [List.nil_append] at hw2
  have HW2 := Lib.hid hw2
  have HS2 := Lib.hid (show Stay (fun _ => False) w w2 from stay_seal (X := fun k => w.heap.size ≤ k) ((HA1.out.mono (fun _ x => x.elim)).trans hs2) (fun k hk => hk))
  clear hw2 hs2 HW1 HA1
  go_wp2
  go_loopw [13] (fun i wr => ∃ j : Nat, j ≤ L.length ∧ i = .int .i64 (j : Int) ∧ Hid (WrAt (fun k => w.heap.size ≤ k) wr w.heap.size (spellB L.length ++ rowsB (L.take j))) ∧ Stay (fun _ => False) w wr) (fun i _ => L.length - (intOf i).toNat)
  case atStart => exact ⟨0, Nat.zero_le _, rfl, by rw [List.take_zero, show rowsB [] = [] from rfl, List.append_nil]; exact HW2, HS2.out⟩
  case round =>
    obtain ⟨j, hj, rfl, hwa, hst⟩ := hrel
    have HT := Lib.hid hst
    clear hst
    by_cases hlt : j < L.length
    · obtain ⟨e, he⟩ : ∃ e, L[j]? = some e := ⟨_, List.getElem?_eq_getElem (by omega)⟩
      obtain ⟨g, o, rfl, _, hc⟩ := (HX.out.stay0 HT.out).at (by omega)
      obtain ⟨h0, h1, h2⟩ := hc _ e he
      have kl := Lib.hid (Me.run_load_at h0 h1 h2)
      have HK := Lib.hid (show spellB L.length ++ rowsB (L.take (j + 1)) = spellB L.length ++ rowsB (L.take j) ++ bytesB e.k ++ boolB e.g ++ bytesB (norm e).v by rw [rows_take he, entB]; simp only [List.append_assoc])
      have HLE := Lib.hid (show (spellB L.length ++ rowsB (L.take (j + 1))).length ≤ 110000000000000 by
        have h1 := rows_le L (j + 1)
        have h2 := HRL.out
        rw [List.length_append] at h2 ⊢
        omega)
      have HEL := Lib.hid (show (spellB L.length ++ rowsB (L.take j)).length + 9 + e.k.length + 9 + (norm e).v.length ≤ 120000000000000 by
        have h0 := HLE.out
        rw [HK.out] at h0
        have h3 := (len_bytesB e.k).1
        have h4 := (len_bytesB (norm e).v).1
        simp only [List.length_append, len_boolB] at h0 ⊢
        omega)
      have HBX := Lib.hid (Box.new wr ⟨[], [], false⟩)
      have HA := Lib.hid (show Stay (fun _ => False) wr (wr.alloc (.cells (enC ⟨[], [], false⟩).toArray 42)) from Stay.alloc _ _)
      have hpl := hwa.out.lt
      have hzs := HT.out.size
      clear he hc h0 h1 h2
      generalize spellB L.length ++ rowsB (L.take j) = R at *
      obtain ⟨b, hb⟩ : ∃ b, b = wr.heap.size := ⟨_, rfl⟩
      have HBB := Lib.hid hb
      clear hb
      cases hg : e.g with
      | false =>
        go_wp2_with (first
          | (refine Me.wpList_load_run (by rfl) 42 (.tmp 15) rfl ⟨g, o + j * 3, none⟩ rfl _ kl.out ?_)
          | (with_reducible refine Me.alloc_en rfl rfl ?_)
          | (refine Box.store HBX.out rfl (.tmp 5) (.tmp 16) rfl rfl e rfl ?_
             intro w3 hb3 hs3
             have c2 := hb3.c (j := 2) rfl
             have c1 := hb3.c (j := 1) rfl
             have f1 := hb3.fr 1
             rw [hg] at c2
             have HB3 := Lib.hid hb3
             have HS3 := Lib.hid (stay_seal (HA.out.mono (fun _ x => x.elim) |>.trans hs3) (fun k hk => by have hk' : k = wr.heap.size := hk; omega))
             have HZ3 := Lib.hid (show wr.heap.size + 1 ≤ w3.heap.size by have := hs3.size; simp at this; omega)
             clear hb3 hs3))
        have hbx : Box w3 wr.heap.size (norm e) := by
          unfold norm
          rw [if_neg (by rw [hg]; decide)]
          exact HB3.out
        have hs4 : Stay (fun _ => False) wr w3 := HS3.out
        have hz4 : wr.heap.size + 1 ≤ w3.heap.size := HZ3.out
        obtain ⟨w4, rfl⟩ : ∃ w4, w4 = w3 := ⟨_, rfl⟩
        rw [← HBB.out] at hbx hz4 hpl ⊢
        obtain ⟨Y, hYd⟩ : ∃ Y : Nat → Prop, Y = fun k => w.heap.size ≤ k ∧ k ≠ b := ⟨_, rfl⟩
        have HYE := Lib.hid (show ∀ k, Y k → w.heap.size ≤ k ∧ k ≠ b by intro k h; rw [hYd] at h; exact h)
        have HYI := Lib.hid (show ∀ k, w.heap.size ≤ k → k ≠ b → Y k by intro k h1 h2; rw [hYd]; exact ⟨h1, h2⟩)
        have HCL := Lib.hid (show ∀ W, Stay Y w4 W → Cl Y W from fun W hW k hk => HYI.out k (by have := hW.size; omega) (by have := hW.size; omega))
        have HWA := Lib.hid (show WrAt Y w4.drew w.heap.size R from ((hwa.out.tight.stay0 hs4).mono (fun k hk => HYI.out k hk.1 (by have := hk.2; have := HBB.out; omega))).stay0 Stay.drew)
        have HKG := Lib.hid (show (norm e).k = e.k ∧ (norm e).g = e.g from ⟨Me.norm_k e, Me.norm_g e⟩)
        have HC0 := Lib.hid (show ∀ W, Stay Y w4.drew W → W.cell? ⟨b, 0, none⟩ = some (.string ⟨e.k.toArray⟩) from fun W hW => hW.cell (by have := hbx.c (j := 0) rfl; rw [HKG.out.1] at this; exact this) (fun h => (HYE.out _ h).2 rfl))
        have HC1 := Lib.hid (show ∀ W, Stay Y w4.drew W → W.cell? ⟨b, 1, none⟩ = some (.string ⟨(norm e).v.toArray⟩) from fun W hW => hW.cell (hbx.c (j := 1) rfl) (fun h => (HYE.out _ h).2 rfl))
        have HC2 := Lib.hid (show ∀ W, Stay Y w4.drew W → W.cell? ⟨b, 2, none⟩ = some (.bool e.g) from fun W hW => hW.cell (by have := hbx.c (j := 2) rfl; rw [HKG.out.2] at this; exact this) (fun h => (HYE.out _ h).2 rfl))
        have HS4 := Lib.hid hs4
        clear hYd hbx hs4 HKG HB3 HS3 HZ3 c1 c2 f1 HBX HA HBB hg
        go_wp2
        refine wp_region_held (S := Stay Y w4.drew) (by kernel_rfl) ?_
        change wpAnyH _ _ _ _ _ _ _ _ (World.drew _)
        refine wpAnyH_takeL (i := 0) (v := .pointer (some ⟨w.heap.size, 0, none⟩)) #[true, false, false, false, false, false, false, false, false, false] rfl (by kernel_rfl) (by kernel_rfl) (by kernel_rfl) (fun _ _ _ h => h) (by kernel_rfl) (Stay.refl _ _) (Or.inl ⟨by rfl, fun W hW => ?_⟩) ?_
        · go_simp
        conv => arg 8; simp [Act.put]
        refine wpAnyH_takeL (i := 1) (v := .pointer (some ⟨b, 0, none⟩)) #[true, true, false, false, false, false, false, false, false, false] rfl (by kernel_rfl) (by kernel_rfl) (by kernel_rfl) (fun _ _ _ h => h) (by kernel_rfl) (Stay.refl _ _) (Or.inl ⟨by rfl, fun W hW => ?_⟩) ?_
        · go_simp
        conv => arg 8; simp [Act.put]
        refine wpAnyH_takeL (i := 4) (v := .pointer (some ⟨b, 2, none⟩)) #[true, true, false, false, true, false, false, false, false, false] rfl (by kernel_rfl) (by kernel_rfl) (by kernel_rfl) (fun _ _ _ h => h) (by kernel_rfl) (Stay.refl _ _) (Or.inl ⟨by rfl, fun W hW => ?_⟩) ?_
        · go_simp
        conv => arg 8; simp [Act.put]
        refine wpAnyH_takeL (i := 7) (v := .pointer (some ⟨b, 1, none⟩)) #[true, true, false, false, true, false, false, true, false, false] rfl (by kernel_rfl) (by kernel_rfl) (by kernel_rfl) (fun _ _ _ h => h) (by kernel_rfl) (Stay.refl _ _) (Or.inl ⟨by rfl, fun W hW => ?_⟩) ?_
        · go_simp
        conv => arg 8; simp [Act.put]
        refine wpAnyH_takeL (i := 2) (v := .string ⟨e.k.toArray⟩) #[true, true, true, false, true, false, false, true, false, false] rfl (by kernel_rfl) (by kernel_rfl) (by kernel_rfl) (fun _ _ _ h => h) (by kernel_rfl) (Stay.refl _ _) (Or.inl ⟨by rfl, fun W hW => ?_⟩) ?_
        · have hc := HC0.out W hW
          go_simp
        conv => arg 8; simp [Act.put]
        refine wpAnyH_takeL (i := 5) (v := .bool e.g) #[true, true, true, false, true, true, false, true, false, false] rfl (by kernel_rfl) (by kernel_rfl) (by kernel_rfl) (fun _ _ _ h => h) (by kernel_rfl) (Stay.refl _ _) (Or.inl ⟨by rfl, fun W hW => ?_⟩) ?_
        · have hc := HC2.out W hW
          go_simp
        conv => arg 8; simp [Act.put]
        refine wpAnyH_takeL (i := 8) (v := .string ⟨(norm e).v.toArray⟩) #[true, true, true, false, true, true, false, true, true, false] rfl (by kernel_rfl) (by kernel_rfl) (by kernel_rfl) (fun _ _ _ h => h) (by kernel_rfl) (Stay.refl _ _) (Or.inl ⟨by rfl, fun W hW => ?_⟩) ?_
        · have hc := HC1.out W hW
          go_simp
        conv => arg 8; simp [Act.put]
        refine wpAnyH_one #[true, true, true, true, true, true, false, true, true, false] (i := 3) rfl (by kernel_rfl) (by kernel_rfl) (fun K hK => ?_)
        go_simp
        go_wp2_with (go_at_call 47; refine (Pk.wtextY Y _ w.heap.size R e.k HWA.out (HCL.out _ Stay.drew) (by have := HEL.out; omega)).mono ?_; rintro x w5 ⟨rfl, hw5, sw5⟩; have Hw5 := Lib.hid hw5; have Tw5 := Lib.hid (sw5); clear hw5 sw5)
        refine hK _ _ Tw5.out ?_
        clear hK
        conv => arg 8; simp [Act.put]
        refine wpAnyH_one #[true, true, true, true, true, true, true, true, true, false] (i := 6) rfl (by kernel_rfl) (by kernel_rfl) (fun K hK => ?_)
        go_simp
        go_wp2_with (go_at_call 48; refine (Pk.boolY Y _ w.heap.size (R ++ bytesB e.k) e.g Hw5.out (HCL.out _ (Stay.drew.trans Tw5.out)) (by have := HEL.out; have := (len_bytesB e.k).2; rw [List.length_append]; omega)).mono ?_; rintro x w6 ⟨rfl, hw6, sw6⟩; have Hw6 := Lib.hid hw6; have Tw6 := Lib.hid (Tw5.out.trans sw6); clear hw6 sw6)
        refine hK _ _ Tw6.out ?_
        clear hK
        conv => arg 8; simp [Act.put]
        refine wpAnyH_one #[true, true, true, true, true, true, true, true, true, true] (i := 9) rfl (by kernel_rfl) (by kernel_rfl) (fun K hK => ?_)
        go_simp
        go_wp2_with (go_at_call 47; refine (Pk.wtextY Y _ w.heap.size (R ++ bytesB e.k ++ boolB e.g) (norm e).v Hw6.out (HCL.out _ (Stay.drew.trans Tw6.out)) (by have := HEL.out; have := (len_bytesB e.k).2; rw [List.length_append, List.length_append, len_boolB]; omega)).mono ?_; rintro x w7 ⟨rfl, hw7, sw7⟩; have Hw7 := Lib.hid hw7; have Tw7 := Lib.hid (Tw6.out.trans sw7); clear hw7 sw7)
        refine hK _ _ Tw7.out ?_
        clear hK
        conv => arg 8; simp [Act.put]
        refine wpAnyH_done (by kernel_rfl) ?_ _
        have HW7 := Lib.hid (show WrAt (fun k => w.heap.size ≤ k) w7 w.heap.size (spellB L.length ++ rowsB (L.take (j + 1))) by rw [HK.out]; exact Hw7.out.mono (fun k hk => (HYE.out k hk).1))
        have HT7 := Lib.hid (show Stay (fun _ => False) w w7 from stay_seal (X := fun k => w.heap.size ≤ k) (((HT.out.trans HS4.out).mono (fun _ x => x.elim)).trans ((Stay.drew.trans Tw7.out).mono (fun k hk => (HYE.out k hk).1))) (fun k hk => hk))
        clear Hw5 Tw5 Hw6 Tw6 Hw7 Tw7 HC0 HC1 HC2 HWA
        go_wp2
        go_roundw
        case rel => exact ⟨j + 1, hlt, by go_num, HW7, HT7.out⟩
        case measure => simp [intOf]; omega
      | true =>
        go_wp2_with (first
          | (refine Me.wpList_load_run (by rfl) 42 (.tmp 15) rfl ⟨g, o + j * 3, none⟩ rfl _ kl.out ?_)
          | (with_reducible refine Me.alloc_en rfl rfl ?_)
          | (refine Box.store HBX.out rfl (.tmp 5) (.tmp 16) rfl rfl e rfl ?_
             intro w3 hb3 hs3
             have c2 := hb3.c (j := 2) rfl
             have c1 := hb3.c (j := 1) rfl
             have f1 := hb3.fr 1
             rw [hg] at c2
             have HB3 := Lib.hid hb3
             have HS3 := Lib.hid (stay_seal (HA.out.mono (fun _ x => x.elim) |>.trans hs3) (fun k hk => by have hk' : k = wr.heap.size := hk; omega))
             have HZ3 := Lib.hid (show wr.heap.size + 1 ≤ w3.heap.size by have := hs3.size; simp at this; omega)
             clear hb3 hs3))
        have hbx : Box (w3.setCell ⟨wr.heap.size, 1, none⟩ (.string ⟨#[]⟩)) wr.heap.size (norm e) := by
          have h1 := heap_setCell_same w3 wr.heap.size 1 _ _ (.string ⟨#[]⟩) HB3.out
          unfold Box norm
          rw [if_pos hg]
          unfold enC at h1 ⊢
          rw [hg] at h1
          exact h1
        have hs4 : Stay (fun _ => False) wr (w3.setCell ⟨wr.heap.size, 1, none⟩ (.string ⟨#[]⟩)) :=
          stay_seal (X := fun k => k = wr.heap.size) ((HS3.out.mono (fun _ x => x.elim)).trans (Stay.setCell _ _ _ rfl)) (fun k hk => by have hk' : k = wr.heap.size := hk; omega)
        have hz4 : wr.heap.size + 1 ≤ (w3.setCell ⟨wr.heap.size, 1, none⟩ (.string ⟨#[]⟩)).heap.size := by simp; exact HZ3.out
        obtain ⟨w4, hw4⟩ : ∃ w4, w3.setCell ⟨wr.heap.size, 1, none⟩ (.string ⟨#[]⟩) = w4 := ⟨_, rfl⟩
        rw [hw4] at hbx hs4 hz4 ⊢
        clear hw4
        rw [← HBB.out] at hbx hz4 hpl ⊢
        obtain ⟨Y, hYd⟩ : ∃ Y : Nat → Prop, Y = fun k => w.heap.size ≤ k ∧ k ≠ b := ⟨_, rfl⟩
        have HYE := Lib.hid (show ∀ k, Y k → w.heap.size ≤ k ∧ k ≠ b by intro k h; rw [hYd] at h; exact h)
        have HYI := Lib.hid (show ∀ k, w.heap.size ≤ k → k ≠ b → Y k by intro k h1 h2; rw [hYd]; exact ⟨h1, h2⟩)
        have HCL := Lib.hid (show ∀ W, Stay Y w4 W → Cl Y W from fun W hW k hk => HYI.out k (by have := hW.size; omega) (by have := hW.size; omega))
        have HWA := Lib.hid (show WrAt Y w4.drew w.heap.size R from ((hwa.out.tight.stay0 hs4).mono (fun k hk => HYI.out k hk.1 (by have := hk.2; have := HBB.out; omega))).stay0 Stay.drew)
        have HKG := Lib.hid (show (norm e).k = e.k ∧ (norm e).g = e.g from ⟨Me.norm_k e, Me.norm_g e⟩)
        have HC0 := Lib.hid (show ∀ W, Stay Y w4.drew W → W.cell? ⟨b, 0, none⟩ = some (.string ⟨e.k.toArray⟩) from fun W hW => hW.cell (by have := hbx.c (j := 0) rfl; rw [HKG.out.1] at this; exact this) (fun h => (HYE.out _ h).2 rfl))
        have HC1 := Lib.hid (show ∀ W, Stay Y w4.drew W → W.cell? ⟨b, 1, none⟩ = some (.string ⟨(norm e).v.toArray⟩) from fun W hW => hW.cell (hbx.c (j := 1) rfl) (fun h => (HYE.out _ h).2 rfl))
        have HC2 := Lib.hid (show ∀ W, Stay Y w4.drew W → W.cell? ⟨b, 2, none⟩ = some (.bool e.g) from fun W hW => hW.cell (by have := hbx.c (j := 2) rfl; rw [HKG.out.2] at this; exact this) (fun h => (HYE.out _ h).2 rfl))
        have HS4 := Lib.hid hs4
        clear hYd hbx hs4 HKG HB3 HS3 HZ3 c1 c2 f1 HBX HA HBB hg
        go_wp2
        refine wp_region_held (S := Stay Y w4.drew) (by kernel_rfl) ?_
        change wpAnyH _ _ _ _ _ _ _ _ (World.drew _)
        refine wpAnyH_takeL (i := 0) (v := .pointer (some ⟨w.heap.size, 0, none⟩)) #[true, false, false, false, false, false, false, false, false, false] rfl (by kernel_rfl) (by kernel_rfl) (by kernel_rfl) (fun _ _ _ h => h) (by kernel_rfl) (Stay.refl _ _) (Or.inl ⟨by rfl, fun W hW => ?_⟩) ?_
        · go_simp
        conv => arg 8; simp [Act.put]
        refine wpAnyH_takeL (i := 1) (v := .pointer (some ⟨b, 0, none⟩)) #[true, true, false, false, false, false, false, false, false, false] rfl (by kernel_rfl) (by kernel_rfl) (by kernel_rfl) (fun _ _ _ h => h) (by kernel_rfl) (Stay.refl _ _) (Or.inl ⟨by rfl, fun W hW => ?_⟩) ?_
        · go_simp
        conv => arg 8; simp [Act.put]
        refine wpAnyH_takeL (i := 4) (v := .pointer (some ⟨b, 2, none⟩)) #[true, true, false, false, true, false, false, false, false, false] rfl (by kernel_rfl) (by kernel_rfl) (by kernel_rfl) (fun _ _ _ h => h) (by kernel_rfl) (Stay.refl _ _) (Or.inl ⟨by rfl, fun W hW => ?_⟩) ?_
        · go_simp
        conv => arg 8; simp [Act.put]
        refine wpAnyH_takeL (i := 7) (v := .pointer (some ⟨b, 1, none⟩)) #[true, true, false, false, true, false, false, true, false, false] rfl (by kernel_rfl) (by kernel_rfl) (by kernel_rfl) (fun _ _ _ h => h) (by kernel_rfl) (Stay.refl _ _) (Or.inl ⟨by rfl, fun W hW => ?_⟩) ?_
        · go_simp
        conv => arg 8; simp [Act.put]
        refine wpAnyH_takeL (i := 2) (v := .string ⟨e.k.toArray⟩) #[true, true, true, false, true, false, false, true, false, false] rfl (by kernel_rfl) (by kernel_rfl) (by kernel_rfl) (fun _ _ _ h => h) (by kernel_rfl) (Stay.refl _ _) (Or.inl ⟨by rfl, fun W hW => ?_⟩) ?_
        · have hc := HC0.out W hW
          go_simp
        conv => arg 8; simp [Act.put]
        refine wpAnyH_takeL (i := 5) (v := .bool e.g) #[true, true, true, false, true, true, false, true, false, false] rfl (by kernel_rfl) (by kernel_rfl) (by kernel_rfl) (fun _ _ _ h => h) (by kernel_rfl) (Stay.refl _ _) (Or.inl ⟨by rfl, fun W hW => ?_⟩) ?_
        · have hc := HC2.out W hW
          go_simp
        conv => arg 8; simp [Act.put]
        refine wpAnyH_takeL (i := 8) (v := .string ⟨(norm e).v.toArray⟩) #[true, true, true, false, true, true, false, true, true, false] rfl (by kernel_rfl) (by kernel_rfl) (by kernel_rfl) (fun _ _ _ h => h) (by kernel_rfl) (Stay.refl _ _) (Or.inl ⟨by rfl, fun W hW => ?_⟩) ?_
        · have hc := HC1.out W hW
          go_simp
        conv => arg 8; simp [Act.put]
        refine wpAnyH_one #[true, true, true, true, true, true, false, true, true, false] (i := 3) rfl (by kernel_rfl) (by kernel_rfl) (fun K hK => ?_)
        go_simp
        go_wp2_with (go_at_call 47; refine (Pk.wtextY Y _ w.heap.size R e.k HWA.out (HCL.out _ Stay.drew) (by have := HEL.out; omega)).mono ?_; rintro x w5 ⟨rfl, hw5, sw5⟩; have Hw5 := Lib.hid hw5; have Tw5 := Lib.hid (sw5); clear hw5 sw5)
        refine hK _ _ Tw5.out ?_
        clear hK
        conv => arg 8; simp [Act.put]
        refine wpAnyH_one #[true, true, true, true, true, true, true, true, true, false] (i := 6) rfl (by kernel_rfl) (by kernel_rfl) (fun K hK => ?_)
        go_simp
        go_wp2_with (go_at_call 48; refine (Pk.boolY Y _ w.heap.size (R ++ bytesB e.k) e.g Hw5.out (HCL.out _ (Stay.drew.trans Tw5.out)) (by have := HEL.out; have := (len_bytesB e.k).2; rw [List.length_append]; omega)).mono ?_; rintro x w6 ⟨rfl, hw6, sw6⟩; have Hw6 := Lib.hid hw6; have Tw6 := Lib.hid (Tw5.out.trans sw6); clear hw6 sw6)
        refine hK _ _ Tw6.out ?_
        clear hK
        conv => arg 8; simp [Act.put]
        refine wpAnyH_one #[true, true, true, true, true, true, true, true, true, true] (i := 9) rfl (by kernel_rfl) (by kernel_rfl) (fun K hK => ?_)
        go_simp
        go_wp2_with (go_at_call 47; refine (Pk.wtextY Y _ w.heap.size (R ++ bytesB e.k ++ boolB e.g) (norm e).v Hw6.out (HCL.out _ (Stay.drew.trans Tw6.out)) (by have := HEL.out; have := (len_bytesB e.k).2; rw [List.length_append, List.length_append, len_boolB]; omega)).mono ?_; rintro x w7 ⟨rfl, hw7, sw7⟩; have Hw7 := Lib.hid hw7; have Tw7 := Lib.hid (Tw6.out.trans sw7); clear hw7 sw7)
        refine hK _ _ Tw7.out ?_
        clear hK
        conv => arg 8; simp [Act.put]
        refine wpAnyH_done (by kernel_rfl) ?_ _
        have HW7 := Lib.hid (show WrAt (fun k => w.heap.size ≤ k) w7 w.heap.size (spellB L.length ++ rowsB (L.take (j + 1))) by rw [HK.out]; exact Hw7.out.mono (fun k hk => (HYE.out k hk).1))
        have HT7 := Lib.hid (show Stay (fun _ => False) w w7 from stay_seal (X := fun k => w.heap.size ≤ k) (((HT.out.trans HS4.out).mono (fun _ x => x.elim)).trans ((Stay.drew.trans Tw7.out).mono (fun k hk => (HYE.out k hk).1))) (fun k hk => hk))
        clear Hw5 Tw5 Hw6 Tw6 Hw7 Tw7 HC0 HC1 HC2 HWA
        go_wp2
        go_roundw
        case rel => exact ⟨j + 1, hlt, by go_num, HW7, HT7.out⟩
        case measure => simp [intOf]; omega
    · obtain rfl : j = L.length := by omega
      rw [List.take_length] at hwa
      go_wp2_with fail
      refine (Pk.done_any _ wr w.heap.size _ hwa.out (by have := HRL.out; omega)).mono ?_
      rintro e w3 ⟨v3, rfl, ho3, hs3⟩
      have HT3 := Lib.hid (HT.out.trans hs3)
      have HSL := Lib.hid ho3.slc
      obtain ⟨a3, c3, rfl⟩ := ho3.form
      obtain ⟨T, hT⟩ : ∃ T, T = spellB L.length ++ rowsB L := ⟨_, rfl⟩
      have HTT := Lib.hid (show partB L = Hn.sealB T by rw [hT]; rfl)
      rw [← hT] at HSL HRL ⊢
      clear ho3 hs3 hT
      go_wp2_with fail
      refine (Hn.seal_any _ T w3 HSL.out (by have := HRL.out; omega)).mono ?_
      rintro e w4 ⟨v4, rfl, ho4, hs4⟩
      have HO4 := Lib.hid (ho4.base (base' := w.heap.size) (fun k hk => Nat.le_trans HT3.out.size (ho4.lt k hk).1))
      have HT4 := Lib.hid (HT3.out.trans hs4)
      clear ho4 hs4
      go_wp2
      go_ret
      exact ⟨v4, rfl, by rw [HTT.out]; exact HO4.out, HT4.out⟩
end Go.Proofs.YtljlfdhjolcnaaaGreat.Tb

/-
  table: slices.Chunk over entries: what it hands back, and the contract of its rounds, for a loop body that keeps the two boxes.
-/
namespace Go.Proofs.YtljlfdhjolcnaaaGreat.Tb
open Go.RowKit Go.Shelf
open Me (En EnS EnO Box enC enV norm ltB Sorted getL posN hasB sizeL)
set_option maxRecDepth 100000
set_option linter.unusedVariables false
attribute [local go_sem] Oper.semAt_some

/-- Part number k of n entries that lie at g from o on: p of them, or as many as there are. -/
def partV (g o n p k : Nat) : Value := .slice (some ⟨g, o + k * p * 3, none⟩) (min p (n - k * p)) (min p (n - k * p))
theorem EnS.part {w : World} {g o c p k : Nat} {L : List En} (h : EnS w (.slice (some ⟨g, o, none⟩) L.length c) L) (hp : 1 ≤ p) (hk : k * p < L.length) : EnS w (partV g o L.length p k) (chunk L p k) := by
  obtain ⟨a1, c1, e, h1, h2, h3, h4⟩ := h
  cases e
  obtain ⟨g', o', e, hc⟩ := h4 (by omega)
  cases e
  have hl := length_chunk L p k
  refine ⟨_, min p (L.length - k * p), by rw [partV, hl], by rw [hl]; exact Nat.le_refl _, by omega, (fun e => by cases e), fun h0 => ⟨g, o + k * p * 3, rfl, fun i e he j u hu => ?_⟩⟩
  have hi : i < p := by
    have := (List.getElem?_eq_some_iff.1 he).1
    omega
  rw [chunk_at hi] at he
  have := hc _ e he j u hu
  rw [show o + (k * p + i) * 3 + j = o + k * p * 3 + i * 3 + j by omega] at this
  exact this

theorem chunk_any (m : Nat) (x : Value) (p : Nat) (hp : 1 ≤ p) (hp2 : (p : Int) ≤ 1000000) (hx : ∃ a n c, x = .slice a n c) (w : World) :
    CallsIn Fence.wide m Tryz.prog 135 #[x, .int .i64 (p : Int)] w fun e w' =>
      e = .returned (.func (.func 159) #[] #[.pointer (some ⟨w.heap.size, 0, none⟩), .pointer (some ⟨w.heap.size + 1, 0, none⟩)]) ∧
      w' = (w.alloc (.cells #[x] 34)).alloc (.cells #[.int .i64 (p : Int)] 3) := by
  obtain ⟨a0, n, c, rfl⟩ := hx
  refine callsIn_of_wp Tryz.func135 rfl trivial ?_ rfl
  simp only [Tryz.ntmps135, List.size_toArray, List.length_cons, List.length_nil, Nat.reduceAdd, Nat.reduceSub, Array.replicate_succ, Array.replicate_zero, List.push_toArray, List.append_toArray, List.nil_append, List.cons_append]
  gi_wp2
  go_ret
  exact ⟨rfl, rfl⟩

/-- What an int's value is, as a measure. -/
def valI : Value → Nat
  | .int _ x => x.toNat
  | _ => 0

set_option maxHeartbeats 4000000 in
/-- The rounds: part by part, each handed to the loop's body, which keeps the two boxes. -/
theorem chunk1_in (l B1 B2 n c p g o : Nat) (hn : n ≤ c) (hn2 : (n : Int) ≤ 1000000) (hp : 1 ≤ p) (hp2 : (p : Int) ≤ 1000000) (J Jx : List (Fin (cN n p)) → World → Prop) (hJdr : ∀ pre w, J pre w → J pre w.drew)
    (hY : ∀ pre x W, J pre W → pre.length < cN n p → YieldAt Fence.wide (3 - 1) Tryz.prog l #[partV g o n p x.val] W fun e W' =>
      (e = .returned (.bool true) ∧ J (pre ++ [x]) W' ∧ (W'.heap[B1]? = W.heap[B1]? ∧ W'.heap[B2]? = W.heap[B2]?)) ∨ (e = .returned (.bool false) ∧ Jx (pre ++ [x]) W'))
    (W : World) (b1 : Boxed W B1 34 (.slice (some ⟨g, o, none⟩) n c)) (b2 : Boxed W B2 3 (.int .i64 (p : Int))) (h0 : J [] W) :
    CallsIn Fence.wide 3 Tryz.prog 159 #[.func (.yield l) #[] #[], .pointer (some ⟨B1, 0, none⟩), .pointer (some ⟨B2, 0, none⟩)] W fun e W' => (∃ v, e = .returned v) ∧
      ((∃ ys, ys.map Fin.val = List.range (cN n p) ∧ J ys W') ∨ (∃ pre, (∃ k, k ≤ cN n p ∧ pre.map Fin.val = List.range k) ∧ Jx pre W')) := by
  refine callsIn_of_wp Tryz.func159 rfl trivial ?_ rfl
  simp only [Tryz.ntmps159, List.size_toArray, List.length_cons, List.length_nil, Nat.reduceAdd, Nat.reduceSub, Array.replicate_succ, Array.replicate_zero, List.push_toArray, List.append_toArray, List.nil_append, List.cons_append]
  gi_wp2
  gi_loopw [4] (fun i wr => ∃ (k m : Nat) (pre : List (Fin (cN n p))), k ≤ cN n p ∧ Hid (m = k * p) ∧ Hid (pre.map Fin.val = List.range k) ∧ i = .int .i64 (m : Int) ∧ J pre wr ∧ Boxed wr B1 34 (.slice (some ⟨g, o, none⟩) n c) ∧ Boxed wr B2 3 (.int .i64 (p : Int)))
    (fun i _ => n + p - valI i)
  case atStart => exact ⟨0, 0, [], Nat.zero_le _, Lib.hid (by omega), Lib.hid rfl, rfl, h0, b1, b2⟩
  case round =>
    obtain ⟨k, m, pre, hk, hm, hpre, rfl, hJs, c1, c2⟩ := hrel
    have d1 := c1.cell
    have d2 := c2.cell
    by_cases hlt : m < n
    · have hcm : ¬ c = m := by omega
      have hJd := hJdr _ _ hJs
      have b1d : Boxed wr.drew B1 34 (.slice (some ⟨g, o, none⟩) n c) := c1
      have b2d : Boxed wr.drew B2 3 (.int .i64 (p : Int)) := c2
      have hkn := (cN_lt (n := n) (i := k) hp).2 (by have := hm.out; omega)
      obtain ⟨fn, tmps, assign, body, hy, hR⟩ := hY _ ⟨k, hkn⟩ wr.drew hJd (by have := congrArg List.length hpre.out; rw [List.length_map, List.length_range] at this; omega)
      have HPR := Lib.hid (show (pre ++ [(⟨k, hkn⟩ : Fin (cN n p))]).map Fin.val = List.range (k + 1) by rw [List.map_append, hpre.out, List.range_succ]; rfl)
      have HNX := Lib.hid (show m + p = (k + 1) * p by rw [hm.out, Nat.add_mul, Nat.one_mul])
      have hz : partV g o n p k = .slice (some ⟨g, o + m * 3, none⟩) (((m : Int) + min (p : Int) ((n - m : Nat) : Int)).toNat - m) (((m : Int) + min (p : Int) ((n - m : Nat) : Int)).toNat - m) := by
        unfold partV
        rw [← hm.out, show ((m : Int) + min (p : Int) ((n - m : Nat) : Int)).toNat - m = min p (n - m) by omega]
      rw [hz] at hy
      clear hz
      gi_wp2
      gi_region
      all_goals gi_wp2
      all_goals (refine hR.mono ?_; rintro e W3 (⟨rfl, hJ3, hk1, hk2⟩ | ⟨rfl, hJx3⟩))
      · have c1' : Boxed W3 B1 34 (.slice (some ⟨g, o, none⟩) n c) := hk1.trans c1
        have c2' : Boxed W3 B2 3 (.int .i64 (p : Int)) := hk2.trans c2
        have d1' := c1'.cell
        have d2' := c2'.cell
        gi_wp2
        go_roundw
        case rel => exact ⟨k + 1, m + p, _, by omega, HNX, HPR, by simp <;> omega, hJ3, c1', c2'⟩
        case measure => simp [valI]; omega
      · gi_wp2
        refine bodyPost_ret (results_none rfl _ _ _) rfl ?_
        exact ⟨⟨_, rfl⟩, .inr ⟨_, ⟨k + 1, by omega, HPR.out⟩, hJx3⟩⟩
    · have hkp : k = cN n p := by
        have := mt (cN_lt (n := n) (i := k) hp).1 (by rw [← hm.out]; omega)
        omega
      gi_wp2
      go_end0
      exact ⟨⟨_, rfl⟩, .inl ⟨_, by rw [hpre.out, hkp], hJs⟩⟩
end Go.Proofs.YtljlfdhjolcnaaaGreat.Tb

/-
  table: a table as bytes: the parts of entries, each with its first key, and what is behind them.
-/
namespace Go.Proofs.YtljlfdhjolcnaaaGreat.Tb
open Go.RowKit Go.Shelf
open Pk (stay_seal)
open Me (En EnS EnO Box enC enV norm ltB Sorted getL posN hasB sizeL)
open Pk (spellB bytesB boolB Slc Owns WrAt Cl)
open Bo (FAt)
set_option maxRecDepth 100000
set_option linter.unusedVariables false
attribute [local go_sem] Oper.semAt_some

theorem hdN_flat (L : List En) (p : Nat) : ∀ m, hdN L p 0 m = (List.range m).flatMap (headB L p)
  | 0 => rfl
  | m + 1 => by rw [hdN_succ, hdN_flat L p m, List.range_succ, Nat.zero_add]; simp
/-- Just the blocks that a writer has: they are cells. -/
theorem wr_cells {X : Nat → Prop} {w : World} {p : Nat} {l : List UInt8} (h : WrAt X w p l) : ∃ Z : Nat → Prop, WrAt Z w p l ∧ (∀ k, Z k → X k) ∧ ∀ k, Z k → ∃ cs t fr, w.heap[k]? = some (.cells cs t fr) := by
  obtain ⟨hp, v, hv, ho, hk⟩ := h
  refine ⟨fun k => k = p ∨ v.ownBlock = some k, ⟨.inl rfl, v, hv, ho, fun k e => ⟨.inr e, (hk k e).2⟩⟩, fun k h => ?_, fun k h => ?_⟩
  · rcases h with rfl | h
    · exact hp
    · exact (hk k h).1
  · rcases h with rfl | h
    · exact ⟨_, _, _, hv⟩
    · rcases ho.2 with ⟨e, _⟩ | ⟨g, cap, cur, rfl, _, hg, _⟩
      · rw [e] at h; cases h
      · cases h; exact ⟨_, _, _, hg⟩
theorem wr_kept {X : Nat → Prop} {A B : World} {row : Option Nat} {p : Nat} {l : List UInt8} (h : WrAt X A p l) (hg : A.grownBy B row) (hr : ∀ r, row = some r → ∃ o : Obj, A.heap[r]? = some o ∧ o.isCells = false) : WrAt X B p l := by
  obtain ⟨Z, hz, h1, h2⟩ := wr_cells h
  refine (hz.stay (Y := fun k => row = some k) (Stay.grown hg (fun k e => e)) (fun k hk _ e => ?_)).mono h1
  obtain ⟨cs, t, fr, h3⟩ := h2 k hk
  obtain ⟨o, h4, h5⟩ := hr k e
  rw [h3] at h4
  cases h4
  cases h5
theorem keeps_wr {B : Nat} {Z : Nat → Prop} {W W' : World} (hz : ∀ k, Z k → ∃ cs t fr, W.heap[k]? = some (.cells cs t fr)) (hs : Stay (fun k => Z k ∨ W.heap.size ≤ k) W W') : KeepsFrom B W W' :=
  ⟨hs.size, fun k o _ hk ho => (hs.block k (Array.getElem?_eq_some_iff.1 hk).1 (fun h => by
    rcases h with h | h
    · obtain ⟨cs, t, fr, h3⟩ := hz k h
      rw [hk] at h3
      cases h3
      cases ho
    · have := (Array.getElem?_eq_some_iff.1 hk).1
      omega)).trans hk⟩

theorem flat_le {α β : Type} (l : List α) (f : α → List β) (M : Nat) (h : ∀ x, (f x).length ≤ M) : (l.flatMap f).length ≤ l.length * M := by
  induction l with
  | nil => simp
  | cons a r ih =>
    have := h a
    rw [List.flatMap_cons, List.length_append, List.length_cons, Nat.add_mul]
    omega
theorem len_headB (L : List En) (p k : Nat) : (headB L p k).length ≤ 2 * sizeL L + 19 * L.length + 40 := by
  have h1 := len_bytesB (keyAt L (k * p))
  have h2 := len_bytesB (partB (chunk L p k))
  have h3 := length_partB (chunk L p k)
  have h4 := keyAt_le L (k * p)
  have h5 := size_chunk L p k
  have h6 := length_chunk L p k
  unfold headB
  rw [List.length_append]
  omega

set_option maxHeartbeats 4000000 in
theorem lay_any (w : World) (x : Value) (L : List En) (p pf gf q : Nat) (hx : EnS w x L) (hf : FAt w pf gf 3 (filtB L q)) (hp : 1 ≤ p) (hp2 : p ≤ 1000000) (hn : 1 ≤ L.length) (hl : L.length ≤ 1000) (hz : sizeL L ≤ 1000000000) (hqn : q * L.length ≤ 1048576) :
    Calls Tryz.prog 102 #[x, .int .i64 (p : Int), .pointer (some ⟨pf, 0, none⟩)] w fun e w' => ∃ v, e = .returned v ∧ Owns w.heap.size w' v (tabB L p q) ∧ Stay (fun _ => False) w w' := by
  have HX := Lib.hid hx
  have HF := Lib.hid hf
  obtain ⟨a0, c, rfl⟩ := hx.form
  obtain ⟨g, o, rfl, hgl, _⟩ := hx.at (by omega)
  have hcc : L.length ≤ c := by
    obtain ⟨_, c1, e, h1, _⟩ := hx
    cases e
    exact h1
  have hcm : (L.length : Int) ≤ 1000000 := by omega
  have hpm : (p : Int) ≤ 1000000 := by omega
  have hp1 : (1 : Int) ≤ p := by omega
  have HHL := Lib.hid (show ∀ pre : List (Fin (cN L.length p)), pre.length ≤ cN L.length p → (pre.flatMap (fun k => headB L p k.val)).length ≤ 3000000000000 by
    intro pre hm
    have h1 := flat_le pre (fun k => headB L p k.val) 2000020040 (fun k => by have h9 := len_headB L p k.val; show (headB L p k.val).length ≤ _; omega)
    have h4 := cN_le (n := L.length) hp
    have h5 : pre.length * 2000020040 ≤ 1000 * 2000020040 := Nat.mul_le_mul_right _ (by omega)
    omega)
  have HPL := Lib.hid (show ∀ k, (partB (chunk L p k)).length ≤ 1000020000 by
    intro k
    have h1 := length_partB (chunk L p k)
    have h2 := size_chunk L p k
    have h3 := length_chunk L p k
    omega)
  have hcl := cN_le (n := L.length) hp
  have hcp := cN_pos hp hn
  have hcn : ((L.length : Int) + p - 1) / p = (cN L.length p : Int) := by
    unfold cN
    have : ((L.length : Int) + p - 1) = ((L.length + p - 1 : Nat) : Int) := by omega
    rw [this, Int.natCast_ediv]
  have HCN := Lib.hid hcn
  have HW := Lib.hid (Pk.WrAt.new w)
  have HA := Lib.hid (show Stay (fun _ => False) w (w.alloc (.cells #[.slice none 0 0] 138)) from Stay.alloc _ _)
  clear hx hf hcn
  refine (callsIn_wide (n := 4)).1 ?_
  refine callsIn_of_wp_marks Tryz.func102 rfl trivial ?_ rfl
  simp only [Tryz.ntmps102, List.size_toArray, List.length_cons, List.length_nil, Nat.reduceAdd, Nat.reduceSub, Array.replicate_succ, Array.replicate_zero, List.push_toArray, List.append_toArray, List.nil_append, List.cons_append]
  gi_wp2_with fail
  rw [HCN.out]
  refine ⟨trivial, (callsIn_wide.2 (Pk.new_any w)).mono ?_⟩
  rintro e w1 ⟨rfl, hw1⟩
  have HW1 := Lib.hid (show WrAt (fun k => w.heap.size ≤ k) w1 w.heap.size [] from hw1 ▸ HW.out)
  have HA1 := Lib.hid (show Stay (fun _ => False) w w1 from hw1 ▸ HA.out)
  clear HW HA hw1
  gi_wp2_with fail
  refine ⟨trivial, (callsIn_wide.2 (Pk.uint_at' w.heap.size w1 w.heap.size [] L.length _ (by omega) HW1.out (by omega) (by simp))).mono ?_⟩
  rintro e w2 ⟨rfl, hw2, hs2⟩
  rw [List.nil_append] at hw2
  have HW2 := Lib.hid hw2
  have HS2 := Lib.hid (show Stay (fun _ => False) w w2 from stay_seal (X := fun k => w.heap.size ≤ k) ((HA1.out.mono (fun _ x => x.elim)).trans hs2) (fun k hk => hk))
  clear hw2 hs2 HW1 HA1
  gi_wp2_with fail
  refine ⟨trivial, (callsIn_wide.2 (Pk.uint_at' w.heap.size w2 w.heap.size (spellB L.length) (cN L.length p) _ (by omega) HW2.out (by omega) (by have := (len_spellB L.length).2; omega))).mono ?_⟩
  rintro e w3 ⟨rfl, hw3, hs3⟩
  obtain ⟨T0, hT0⟩ : ∃ T0, T0 = spellB L.length ++ spellB (cN L.length p) := ⟨_, rfl⟩
  rw [← hT0] at hw3
  have HT0 := Lib.hid hT0
  have HW3 := Lib.hid hw3
  have HS3 := Lib.hid (show Stay (fun _ => False) w w3 from stay_seal (X := fun k => w.heap.size ≤ k) ((HS2.out.mono (fun _ x => x.elim)).trans hs3) (fun k hk => hk))
  clear hw3 hs3 HW2 HS2 hT0
  gi_wp2_with (refine ⟨trivial, ?_⟩; gi_at_call 135; refine (chunk_any _ _ p hp hpm ⟨_, _, _, rfl⟩ _).mono ?_; rintro e w' ⟨rfl, rfl⟩)
  obtain ⟨B, hB⟩ : ∃ B, B = w3.heap.size := ⟨_, rfl⟩
  obtain ⟨w4, hw4⟩ : ∃ w4, w3.alloc (.cells #[.pointer (some ⟨w.heap.size, 0, none⟩)] 100) = w4 := ⟨_, rfl⟩
  have hz4 : w4.heap.size = B + 1 := by subst hw4; simp [hB]
  obtain ⟨w6, hw6⟩ : ∃ w6, (w4.alloc (.cells #[.slice (some ⟨g, o, none⟩) L.length c] 34)).alloc (.cells #[.int .i64 (p : Int)] 3) = w6 := ⟨_, rfl⟩
  have hz6 : w6.heap.size = B + 1 + 1 + 1 := by subst hw6; simp [hz4]
  have B8 : Boxed w6 B 100 (.pointer (some ⟨w.heap.size, 0, none⟩)) := by
    subst hw6; subst hw4; subst hB
    exact ((Boxed.new w3 _ _).alloc _).alloc _
  have B1 : Boxed w6 (B + 1) 34 (.slice (some ⟨g, o, none⟩) L.length c) := by
    subst hw6
    have := Boxed.new w4 34 (.slice (some ⟨g, o, none⟩) L.length c)
    rw [hz4] at this
    exact this.alloc _
  have B2 : Boxed w6 (B + 1 + 1) 3 (.int .i64 (p : Int)) := by
    subst hw6
    have := Boxed.new (w4.alloc (.cells #[.slice (some ⟨g, o, none⟩) L.length c] 34)) 3 (.int .i64 (p : Int))
    rw [World.size_alloc, hz4] at this
    exact this
  have S36 : Stay (fun _ => False) w3 w6 := by
    subst hw6; subst hw4
    exact ((Stay.alloc _ _).trans (Stay.alloc _ _)).trans (Stay.alloc _ _)
  have hzw := HS3.out.size
  have HS6 := Lib.hid (HS3.out.trans S36)
  obtain ⟨X, hX⟩ : ∃ X : Nat → Prop, X = fun k => w.heap.size ≤ k ∧ k ≠ B ∧ k ≠ B + 1 ∧ k ≠ B + 1 + 1 := ⟨_, rfl⟩
  have HXE := Lib.hid (show ∀ k, X k → w.heap.size ≤ k ∧ k ≠ B ∧ k ≠ B + 1 ∧ k ≠ B + 1 + 1 by intro k h; rw [hX] at h; exact h)
  have HXI := Lib.hid (show ∀ k, w.heap.size ≤ k → k ≠ B → k ≠ B + 1 → k ≠ B + 1 + 1 → X k by intro k h1 h2 h3 h4; rw [hX]; exact ⟨h1, h2, h3, h4⟩)
  clear hX
  have HW6 := Lib.hid (show WrAt X w6 w.heap.size T0 from (HW3.out.tight.mono (fun k hk => HXI.out k hk.1 (by have := hk.2; omega) (by have := hk.2; omega) (by have := hk.2; omega))).stay0 S36)
  have HLH := Lib.hid (HX.out.stay0 HS6.out)
  have HFW := Lib.hid (HF.out.stay0 HS6.out)
  have HBW := Lib.hid (show w.heap.size ≤ B by omega)
  have hbw := HBW.out
  rw [← hB, hw4, hw6]
  clear hw4 hw6 S36 HW3 hB
  refine wpIn_rangeFunc_ownG rfl (by omega) (gf := 159) (lb := #[.pointer (some ⟨B + 1, 0, none⟩), .pointer (some ⟨B + 1 + 1, 0, none⟩)]) rfl trivial (enters_of Tryz.func159 (by kernel_rfl) rfl)
    (S := fun ys : List (Fin (cN L.length p)) => ys.map Fin.val = List.range (cN L.length p)) (Sp := fun pre => ∃ k, k ≤ cN L.length p ∧ pre.map Fin.val = List.range k) (N := cN L.length p) (encs := fun k => #[partV g o L.length p k.val])
    (Kp := fun W W' => W'.heap[B + 1]? = W.heap[B + 1]? ∧ W'.heap[B + 1 + 1]? = W.heap[B + 1 + 1]?) (w0 := w6)
    (fun l' J Jx W hW hJ hJx hY h0 => chunk1_in l' (B + 1) (B + 1 + 1) L.length c p g o hcc hcm hp hpm J Jx (fun pre wx hj => hJ _ _ _ none hj ⟨rfl, rfl, rfl, Nat.le_refl _, fun _ _ _ => rfl⟩ (fun r e => by cases e)) hY W
      ((hW.block _ B1.lt).trans B1) ((hW.block _ B2.lt).trans B2) h0)
    (fun h k => ⟨k.1.trans h.1, k.2.trans h.2⟩)
    (fun W l' o o' hl' hW _ _ => ⟨World.putObj_heap_other (by omega), World.putObj_heap_other (by omega)⟩)
    (Below.refl _ _) (fun _ => rfl)
    (fun pre W => WrAt X W w.heap.size (T0 ++ pre.flatMap (fun k => headB L p k.val)) ∧ Stay X w6 W)
    (fun _ _ _ => False)
    ?ownI (fun _ _ _ _ _ hs _ _ => hs) ?start
    (fun x => { tmps := #[.slice (some ⟨g, o, none⟩) L.length c, .int .i64 (p : Int), .pointer (some ⟨pf, 0, none⟩), undef, undef, undef, .slice none 0 0, .int .i64 (cN L.length p : Nat), .pointer (some ⟨B, 0, none⟩), partV g o L.length p x.val,
      .slice (some ⟨g, o, none⟩) L.length c, .int .i64 (L.length : Int), .int .i64 (p : Int), .int .i64 ((L.length : Int) + p), .int .i64 ((L.length : Int) + p - 1), .int .i64 (p : Int), .int .i64 (cN L.length p : Nat), .pointer (some ⟨w.heap.size, 0, none⟩),
      .slice (some ⟨g, o, none⟩) L.length c, .int .i64 (L.length : Int), .int .u64 (L.length : Int), .pointer (some ⟨w.heap.size, 0, none⟩), .int .i64 (cN L.length p : Nat), .int .u64 (cN L.length p : Nat), .pointer (some ⟨w.heap.size, 0, none⟩), .slice (some ⟨g, o, none⟩) L.length c, .int .i64 (p : Int),
      .func (.func 159) #[] #[.pointer (some ⟨B + 1, 0, none⟩), .pointer (some ⟨B + 1 + 1, 0, none⟩)], partV g o L.length p x.val,
      undef, undef, undef, undef, undef, undef, undef, undef, undef, undef, undef, undef, undef, undef, undef, undef, undef, undef, undef, undef, undef, undef, undef, undef], defers := [] }) ?assign ?body ?done ?stop
  case ownI =>
    rintro pre A C row ⟨hw, hS⟩ hg hr
    have hs : Stay (fun k => w6.heap.size ≤ k) A C := Stay.grown hg (fun k e => (hr k e).1)
    exact ⟨wr_kept hw hg (fun r e => (hr r e).2), (hS.mono (fun k hk => hk)).trans (hs.mono (fun k hk => HXI.out k (by omega) (by omega) (by omega) (by omega)))⟩
  case start => exact ⟨by simpa using HW6.out, Stay.refl _ _⟩
  case assign =>
    intro l' x W K hK
    gi_wp2
    exact hK
  case body =>
    rintro l' pre ⟨k, hk⟩ W ⟨hw, hS⟩ hlen
    obtain ⟨Z, hwz, hZX, hZc⟩ := wr_cells hw
    have hkn := (cN_lt hp).1 hk
    have d8 := Boxed.cell (t := 100) ((hS.block _ B8.lt (fun h => (HXE.out _ h).2.1 rfl)).trans B8)
    have hm0 : 1 ≤ min p (L.length - k * p) := by omega
    have hsl := EnS.part (HLH.out.stay hS (fun j hj h => by have h1 := (HXE.out j h).1; have hj' : g = j := (by simpa [Value.ownBlock] using hj); omega)) hp hkn
    obtain ⟨ch, hch⟩ : ∃ ch, ch = chunk L p k := ⟨_, rfl⟩
    have hcl2 : ch.length = min p (L.length - k * p) := by rw [hch]; exact length_chunk L p k
    obtain ⟨e0, he0, hk0⟩ := at_of (L := ch) (i := 0) (by omega)
    have HKY := Lib.hid (show e0.k = keyAt L (k * p) by rw [← hk0, hch]; exact chunk_key hp hkn)
    rw [← hch] at hsl
    have HHB := Lib.hid (show headB L p k = bytesB e0.k ++ bytesB (partB ch) by rw [HKY.out, hch]; rfl)
    unfold partV at hsl ⊢
    rw [← hcl2] at hsl hm0 ⊢
    obtain ⟨o', ho'⟩ : ∃ o', o' = o + k * p * 3 := ⟨_, rfl⟩
    rw [← ho'] at hsl ⊢
    have HSL := Lib.hid hsl
    obtain ⟨g2, o2, e2, _, hcc2⟩ := hsl.at (by omega)
    cases e2
    have c0 := (hcc2 0 e0 he0).1
    rw [Nat.zero_mul, Nat.add_zero] at c0
    have hcm2 : (ch.length : Int) ≤ 1000000 := by omega
    have hm1 : (1 : Int) ≤ ch.length := by omega
    have HCZ := Lib.hid (show sizeL ch ≤ 1000000000 by rw [hch]; exact Nat.le_trans (size_chunk _ _ _) hz)
    have HPC := Lib.hid (show (partB ch).length ≤ 1000020000 by rw [hch]; exact HPL.out k)
    clear hcc2 hch hk0 he0 hcl2 ho' hsl
    obtain ⟨R, hR⟩ : ∃ R, R = T0 ++ pre.flatMap (fun k => headB L p k.val) := ⟨_, rfl⟩
    have HRL := Lib.hid (show R.length ≤ 4000000000000 by
      have h1 := HHL.out pre (by omega)
      have h2 := (len_spellB L.length).2
      have h3 := (len_spellB (cN L.length p)).2
      rw [hR, HT0.out, List.length_append, List.length_append]
      omega)
    have HKL := Lib.hid (show e0.k.length ≤ 1000000000 by rw [HKY.out]; exact Nat.le_trans (keyAt_le _ _) hz)
    have HCS := Lib.hid (show sizeL ch ≤ 1000000000 from HCZ.out)
    have HPB := Lib.hid (show (partB ch).length ≤ 1000020000 from HPC.out)
    rw [← hR] at hwz
    obtain ⟨Y, hY⟩ : ∃ Y : Nat → Prop, Y = fun j => Z j ∨ W.heap.size ≤ j := ⟨_, rfl⟩
    have HYE := Lib.hid (show ∀ j, Y j → Z j ∨ W.heap.size ≤ j by intro j h; rw [hY] at h; exact h)
    have HYI := Lib.hid (show ∀ j, Z j ∨ W.heap.size ≤ j → Y j by intro j h; rw [hY]; exact h)
    have hgW : ¬ Y g := fun h => by
      have h6 := HS6.out.size
      have h7 := hS.size
      rcases HYE.out g h with h | h
      · have := (HXE.out g (hZX g h)).1; omega
      · omega
    have HYX := Lib.hid (show ∀ j, Y j → X j by
      intro j h
      have h7 := hS.size
      rcases HYE.out j h with h | h
      · exact hZX j h
      · exact HXI.out j (by omega) (by omega) (by omega) (by omega))
    have H1 := Lib.hid (show ∀ W', Stay (fun _ => False) W W' → Calls Tryz.prog 47 #[.pointer (some ⟨w.heap.size, 0, none⟩), Me.strV e0.k] W' fun e w1 => e = .returned (.pointer (some ⟨w.heap.size, 0, none⟩)) ∧ WrAt Y w1 w.heap.size (R ++ bytesB e0.k) ∧ Stay Y W w1 from fun W' hW' =>
      (Pk.wtextY Y W' w.heap.size R e0.k ((hwz.mono (fun j hj => HYI.out j (.inl hj))).stay0 hW') (fun j hj => HYI.out j (.inr (Nat.le_trans hW'.size hj))) (by have := HRL.out; have := HKL.out; omega)).mono fun e w1 ⟨h1, h2, h3⟩ => ⟨h1, h2, (hW'.mono (fun _ x => x.elim)).trans h3⟩)
    have H2 := Lib.hid (show ∀ w1, Stay Y W w1 → Calls Tryz.prog 136 #[.slice (some ⟨g, o', none⟩) ch.length ch.length] w1 fun e w2 => ∃ v, e = .returned v ∧ Owns w1.heap.size w2 v (partB ch) ∧ Stay (fun _ => False) w1 w2 from fun w1 h1 =>
      layPart_any w1 _ ch (HSL.out.stay h1 (fun j hj h => by cases hj; exact hgW h)) (by omega) (by have := HCS.out; omega))
    have H3 := Lib.hid (show ∀ w1 w2 v2, WrAt Y w1 w.heap.size (R ++ bytesB e0.k) → Stay Y W w1 → Owns w1.heap.size w2 v2 (partB ch) → Stay (fun _ => False) w1 w2 → Calls Tryz.prog 49 #[.pointer (some ⟨w.heap.size, 0, none⟩), v2] w2 fun e w5 => e = .returned (.pointer (some ⟨w.heap.size, 0, none⟩)) ∧ WrAt X w5 w.heap.size (R ++ bytesB e0.k ++ bytesB (partB ch)) ∧ Stay Y W w5 from fun w1 w2 v2 h1 h2 h3 h4 => by
      obtain ⟨Z1, hz1, hzY, hz2⟩ := wr_cells h1
      have hl1 : ∀ j, Z1 j → j < w1.heap.size := fun j hj => by
        obtain ⟨_, _, _, h⟩ := hz2 j hj
        exact (Array.getElem?_eq_some_iff.1 h).1
      have hsz1 := h2.size
      have hsz2 := h4.size
      refine (Pk.wbytes_any Z1 w2 w.heap.size _ (partB ch) v2 (hz1.stay0 h4) h3.slc (fun _ j hj hz => by have := hl1 j hz; have := (h3.lt j hj).1; omega) (by have := HRL.out; have := HKL.out; have := HPB.out; have := (len_bytesB e0.k).2; rw [List.length_append]; omega)).mono ?_
      rintro e w5 ⟨h5, h6, h7⟩
      refine ⟨h5, h6.mono (fun j hj => HYX.out j ?_), (h2.trans (h4.mono (fun _ x => x.elim))).trans (h7.mono (fun j hj => hzY j hj))⟩
      rcases hj with hj | hj
      · exact hzY j hj
      · exact HYI.out j (.inr (by omega)))
    have HEND := Lib.hid (show T0 ++ (pre ++ [(⟨k, hk⟩ : Fin (cN L.length p))]).flatMap (fun k => headB L p k.val) = R ++ bytesB e0.k ++ bytesB (partB ch) by
      rw [hR, List.flatMap_append]
      simp [HHB.out])
    clear hR hY
    gi_wp2
    have hmx : Tryz.prog.follows .mixedOrders = true := by kernel_rfl
    gi_region_with_o (first
      | (refine ⟨trivial, ?_⟩
         gi_at_call 47
         refine (CallsIn.inRound l' (callsIn_wide.2 (H1.out _ Stay.drew))).mono ?_
         rintro e w1 ⟨rfl, hw1, hs1⟩
         have HW1 := Lib.hid hw1
         have HS1 := Lib.hid hs1
         clear hw1 hs1)
      | (refine ⟨trivial, ?_⟩
         gi_at_call 136
         refine (CallsIn.inRound l' (callsIn_wide.2 (H2.out w1 HS1.out))).mono ?_
         rintro e w2 ⟨v2, rfl, ho2, hs2⟩
         have HO2 := Lib.hid ho2
         have HS2 := Lib.hid hs2
         clear ho2 hs2)
      | (refine ⟨trivial, ?_⟩
         gi_at_call 49
         refine (CallsIn.inRound l' (callsIn_wide.2 (H3.out w1 w2 v2 HW1.out HS1.out HO2.out HS2.out))).mono ?_
         rintro e w5 ⟨rfl, hw5, hs5⟩
         have HW5 := Lib.hid hw5
         have HS5 := Lib.hid hs5
         clear hw5 hs5))
    all_goals gi_wp2
    all_goals
      have hz5 := HS5.out
      exact ⟨keeps_wr hZc (hz5.mono (fun j hj => HYE.out j hj)),
        ⟨hz5.block _ (by have := hS.size; omega) (fun h => (HXE.out _ (HYX.out _ h)).2.2.1 rfl), hz5.block _ (by have := hS.size; omega) (fun h => (HXE.out _ (HYX.out _ h)).2.2.2 rfl)⟩,
        by rw [HEND.out]; exact HW5.out, hS.trans (hz5.mono (fun j hj => HYX.out j hj))⟩
  case done =>
    rintro D ys W hD hys ⟨hw, hS⟩ hK
    have d8 := Boxed.cell (t := 100) ((hS.block _ B8.lt (fun h => (HXE.out _ h).2.1 rfl)).trans B8)
    have hyl : ys.length = cN L.length p := by have := congrArg List.length hys; rw [List.length_map, List.length_range] at this; exact this
    have hR : T0 ++ ys.flatMap (fun k => headB L p k.val) = T0 ++ hdN L p 0 (cN L.length p) := by
      rw [hdN_flat, ← hys, List.flatMap_map]
    obtain ⟨R, hRd⟩ : ∃ R, R = T0 ++ ys.flatMap (fun k => headB L p k.val) := ⟨_, rfl⟩
    have HRL := Lib.hid (show R.length ≤ 4000000000000 by
      have h1 := HHL.out ys (by omega)
      have h2 := (len_spellB L.length).2
      have h3 := (len_spellB (cN L.length p)).2
      rw [hRd, HT0.out, List.length_append, List.length_append]
      omega)
    rw [← hRd] at hw hR
    have HRR := Lib.hid (show R ++ bytesB (lastK L) ++ bytesB (Bo.encB 3 (filtB L q)) = textT L p q by
      rw [hR, HT0.out]; unfold textT tailT; simp only [List.append_assoc])
    obtain ⟨e0, he0, hk0⟩ := at_of (L := L) (i := L.length - 1) (by omega)
    have HKY := Lib.hid (show e0.k = lastK L from hk0.symm)
    have HKL := Lib.hid (show e0.k.length ≤ 1000000000 by rw [HKY.out]; exact Nat.le_trans (keyAt_le _ _) hz)
    have hLW := HLH.out.stay hS (fun j hj h => by have h1 := (HXE.out j h).1; have hj' : g = j := (by simpa [Value.ownBlock] using hj); omega)
    obtain ⟨g2, o2, e2, _, hcc2⟩ := hLW.at (by omega)
    cases e2
    have c0 := (hcc2 _ e0 he0).1
    obtain ⟨Z, hwz, hZX, hZc⟩ := wr_cells hw
    obtain ⟨Y, hY⟩ : ∃ Y : Nat → Prop, Y = fun j => Z j ∨ W.heap.size ≤ j := ⟨_, rfl⟩
    have HYE := Lib.hid (show ∀ j, Y j → Z j ∨ W.heap.size ≤ j by intro j h; rw [hY] at h; exact h)
    have HYI := Lib.hid (show ∀ j, Z j ∨ W.heap.size ≤ j → Y j by intro j h; rw [hY]; exact h)
    have HYX := Lib.hid (show ∀ j, Y j → X j by
      intro j h
      have h7 := hS.size
      rcases HYE.out j h with h | h
      · exact hZX j h
      · exact HXI.out j (by omega) (by omega) (by omega) (by omega))
    have hFW := HFW.out.stay hS (fun h => by have := (HXE.out _ h).1; have := HF.out.plt; omega) (fun h => by have := (HXE.out _ h).1; have := HF.out.glt; omega)
    have H1 := Lib.hid (show ∀ W', Stay (fun _ => False) W W' → Calls Tryz.prog 47 #[.pointer (some ⟨w.heap.size, 0, none⟩), Me.strV e0.k] W' fun e w1 => e = .returned (.pointer (some ⟨w.heap.size, 0, none⟩)) ∧ WrAt Y w1 w.heap.size (R ++ bytesB e0.k) ∧ Stay Y W w1 from fun W' hW' =>
      (Pk.wtextY Y W' w.heap.size R e0.k ((hwz.mono (fun j hj => HYI.out j (.inl hj))).stay0 hW') (fun j hj => HYI.out j (.inr (Nat.le_trans hW'.size hj))) (by have := HRL.out; have := HKL.out; omega)).mono fun e w1 ⟨h1, h2, h3⟩ => ⟨h1, h2, (hW'.mono (fun _ x => x.elim)).trans h3⟩)
    have H2 := Lib.hid (show ∀ w1, Stay Y W w1 → Calls Tryz.prog 137 #[.pointer (some ⟨pf, 0, none⟩)] w1 fun e w2 => ∃ v, e = .returned v ∧ Owns w1.heap.size w2 v (Bo.encB 3 (filtB L q)) ∧ Stay (fun _ => False) w1 w2 from fun w1 h1 =>
      Bo.encode_any w1 pf gf 3 (filtB L q) (hFW.stay h1 (fun h => by have := (HXE.out _ (HYX.out _ h)).1; have := HF.out.plt; omega) (fun h => by have := (HXE.out _ (HYX.out _ h)).1; have := HF.out.glt; omega)))
    have HEL := Lib.hid (show (Bo.encB 3 (filtB L q)).length ≤ 1000000 by
      have h1 := len_encB (B := filtB L q) (by rw [filtB_len]; exact hqn) 3
      rw [filtB_len] at h1
      omega)
    have H3 := Lib.hid (show ∀ w1 w2 v2, WrAt Y w1 w.heap.size (R ++ bytesB e0.k) → Stay Y W w1 → Owns w1.heap.size w2 v2 (Bo.encB 3 (filtB L q)) → Stay (fun _ => False) w1 w2 → Calls Tryz.prog 49 #[.pointer (some ⟨w.heap.size, 0, none⟩), v2] w2 fun e w5 => e = .returned (.pointer (some ⟨w.heap.size, 0, none⟩)) ∧ WrAt X w5 w.heap.size (textT L p q) ∧ Stay Y W w5 from fun w1 w2 v2 h1 h2 h3 h4 => by
      obtain ⟨Z1, hz1, hzY, hz2⟩ := wr_cells h1
      have hl1 : ∀ j, Z1 j → j < w1.heap.size := fun j hj => by
        obtain ⟨_, _, _, h⟩ := hz2 j hj
        exact (Array.getElem?_eq_some_iff.1 h).1
      have hsz1 := h2.size
      have hsz2 := h4.size
      refine (Pk.wbytes_any Z1 w2 w.heap.size _ (Bo.encB 3 (filtB L q)) v2 (hz1.stay0 h4) h3.slc (fun _ j hj hz => by have := hl1 j hz; have := (h3.lt j hj).1; omega) (by have := HRL.out; have := HKL.out; have := HEL.out; have := (len_bytesB e0.k).2; rw [List.length_append]; omega)).mono ?_
      rintro e w5 ⟨h5, h6, h7⟩
      rw [← HRR.out, ← HKY.out]
      refine ⟨h5, h6.mono (fun j hj => HYX.out j ?_), (h2.trans (h4.mono (fun _ x => x.elim))).trans (h7.mono (fun j hj => hzY j hj))⟩
      rcases hj with hj | hj
      · exact hzY j hj
      · exact HYI.out j (.inr (by omega)))
    have HTL := Lib.hid (show (textT L p q).length ≤ 5000000000000 by
      have := HRL.out
      have := HKL.out
      have := HEL.out
      have := (len_bytesB e0.k).2
      have := (len_bytesB (Bo.encB 3 (filtB L q))).2
      rw [← HRR.out, ← HKY.out, List.length_append, List.length_append]
      omega)
    have HB8 := Lib.hid (show ∀ W5, Stay Y W W5 → W5.cell? ⟨B, 0, none⟩ = some (.pointer (some ⟨w.heap.size, 0, none⟩)) from fun W5 h => h.cell d8 (fun h => (HXE.out _ (HYX.out _ h)).2.1 rfl))
    obtain ⟨T, hT⟩ : ∃ T, T = textT L p q := ⟨_, rfl⟩
    have HTT := Lib.hid (show tabB L p q = Hn.sealB T by rw [hT]; rfl)
    rw [← hT] at H3 HTL
    have hl1 : (1 : Int) ≤ L.length := by omega
    have HS0 := Lib.hid (show ∀ W7, Stay (fun k => w.heap.size ≤ k) W W7 → Stay (fun _ => False) w W7 from fun W7 h => stay_seal (X := fun k => w.heap.size ≤ k) ((HS6.out.mono (fun _ x => x.elim)).trans ((hS.mono (fun k hk => (HXE.out k hk).1)).trans h)) (fun k hk => hk))
    have HKD := Lib.hid (show ∀ W7, Stay Y W W7 → ∀ W8, Stay (fun _ => False) W7 W8 → W8.heap[D]? = some (.deferred (some [])) from fun W7 h7 W8 h8 =>
      (h8.block _ (by have := (Array.getElem?_eq_some_iff.1 hK).1; have := h7.size; omega) (fun x => x)).trans ((h7.block _ (Array.getElem?_eq_some_iff.1 hK).1 (fun h => by
        rcases HYE.out _ h with h | h
        · obtain ⟨_, _, _, h9⟩ := hZc _ h
          rw [hK] at h9
          cases h9
        · have := (Array.getElem?_eq_some_iff.1 hK).1; omega)).trans hK))
    clear hcc2 hk0 he0 hT hY hR hRd hys hK
    obtain ⟨n1, hn1⟩ : ∃ n1, L.length = n1 + 1 := ⟨L.length - 1, by omega⟩
    have hn1m : (n1 : Int) ≤ 1000000 := by omega
    rw [hn1, Nat.add_sub_cancel] at c0
    rw [hn1]
    have hwn : IntKind.i64.wrap (n1 : Int) = (n1 : Int) := IntWalk.i64_in _ (by omega)
    clear hn1 hl1 hcm
    gi_wp2
    have hmx : Tryz.prog.follows .mixedOrders = true := by kernel_rfl
    obtain ⟨PP, hPP⟩ : ∃ PP : Act → World → Prop, PP = fun a' W' => ∃ u7 u10 u11 u12 u13 u14 u15 u16 u17 u18 u19 u20 u21 u22 u23 u24 u25 u26 u27 u38 u39 u40 u41 u42 u43 u44 u45 u46 u47 u48 u49 : Value, a' = { tmps := #[.slice (some ⟨g, o, none⟩) (n1 + 1) c, .int .i64 (p : Int), .pointer (some ⟨pf, 0, none⟩), undef, undef, undef, .slice none 0 0, u7, .pointer (some ⟨B, 0, none⟩), undef, u10, u11, u12, u13, u14, u15, u16, u17, u18, u19, u20, u21, u22, u23, u24, u25, u26, u27, undef, undef, undef, undef, undef, undef, undef, undef, undef, undef, u38, u39, u40, u41, u42, u43, u44, u45, u46, u47, u48, u49, undef, undef, undef], defers := [{ target := Target.collected D, args := #[] }] } ∧ Hid (WrAt X W' w.heap.size T) ∧ Hid (Stay Y W W') := ⟨_, rfl⟩
    have HPO := Lib.hid (show ∀ a' W', PP a' W' → ∃ u7 u10 u11 u12 u13 u14 u15 u16 u17 u18 u19 u20 u21 u22 u23 u24 u25 u26 u27 u38 u39 u40 u41 u42 u43 u44 u45 u46 u47 u48 u49 : Value, a' = { tmps := #[.slice (some ⟨g, o, none⟩) (n1 + 1) c, .int .i64 (p : Int), .pointer (some ⟨pf, 0, none⟩), undef, undef, undef, .slice none 0 0, u7, .pointer (some ⟨B, 0, none⟩), undef, u10, u11, u12, u13, u14, u15, u16, u17, u18, u19, u20, u21, u22, u23, u24, u25, u26, u27, undef, undef, undef, undef, undef, undef, undef, undef, undef, undef, u38, u39, u40, u41, u42, u43, u44, u45, u46, u47, u48, u49, undef, undef, undef], defers := [{ target := Target.collected D, args := #[] }] } ∧ Hid (WrAt X W' w.heap.size T) ∧ Hid (Stay Y W W') by intro a' W' h; rw [hPP] at h; exact h)
    have HPI := Lib.hid (show ∀ (u7 u10 u11 u12 u13 u14 u15 u16 u17 u18 u19 u20 u21 u22 u23 u24 u25 u26 u27 u38 u39 u40 u41 u42 u43 u44 u45 u46 u47 u48 u49 : Value) W', Hid (WrAt X W' w.heap.size T) → Hid (Stay Y W W') → PP { tmps := #[.slice (some ⟨g, o, none⟩) (n1 + 1) c, .int .i64 (p : Int), .pointer (some ⟨pf, 0, none⟩), undef, undef, undef, .slice none 0 0, u7, .pointer (some ⟨B, 0, none⟩), undef, u10, u11, u12, u13, u14, u15, u16, u17, u18, u19, u20, u21, u22, u23, u24, u25, u26, u27, undef, undef, undef, undef, undef, undef, undef, undef, undef, undef, u38, u39, u40, u41, u42, u43, u44, u45, u46, u47, u48, u49, undef, undef, undef], defers := [{ target := Target.collected D, args := #[] }] } W' by
      intro u7 u10 u11 u12 u13 u14 u15 u16 u17 u18 u19 u20 u21 u22 u23 u24 u25 u26 u27 u38 u39 u40 u41 u42 u43 u44 u45 u46 u47 u48 u49 W' h1 h2
      rw [hPP]
      exact ⟨u7, u10, u11, u12, u13, u14, u15, u16, u17, u18, u19, u20, u21, u22, u23, u24, u25, u26, u27, u38, u39, u40, u41, u42, u43, u44, u45, u46, u47, u48, u49, rfl, h1, h2⟩)
    clear hPP
    refine Code.wpIn_mono (Q := fun e a' W' => match e with
      | .normal => PP a' W'
      | _ => False) ?next ?region
    case region =>
     gi_region_with (first
       | (refine ⟨trivial, ?_⟩
          gi_at_call 47
          refine (callsIn_wide.2 (H1.out _ Stay.drew)).mono ?_
          rintro e w1 ⟨rfl, hw1, hs1⟩
          have HW1 := Lib.hid hw1
          have HS1 := Lib.hid hs1
          clear hw1 hs1)
       | (refine ⟨trivial, ?_⟩
          gi_at_call 137
          refine (callsIn_wide.2 (H2.out w1 HS1.out)).mono ?_
          rintro e w2 ⟨v2, rfl, ho2, hs2⟩
          have HO2 := Lib.hid ho2
          have HS2 := Lib.hid hs2
          clear ho2 hs2)
       | (refine ⟨trivial, ?_⟩
          gi_at_call 49
          refine (callsIn_wide.2 (H3.out w1 w2 v2 HW1.out HS1.out HO2.out HS2.out)).mono ?_
          rintro e w5 ⟨rfl, hw5, hs5⟩
          have HW5 := Lib.hid hw5
          have HS5 := Lib.hid hs5
          have d85 := HB8.out w5 hs5
          clear hw5 hs5))
     all_goals exact HPI.out _ _ _ _ _ _ _ _ _ _ _ _ _ _ _ _ _ _ _ _ _ _ _ _ _ _ _ _ _ _ _ _ HW5 HS5
    intro e a' W' h
    cases e with
    | normal =>
      obtain ⟨u7, u10, u11, u12, u13, u14, u15, u16, u17, u18, u19, u20, u21, u22, u23, u24, u25, u26, u27, u38, u39, u40, u41, u42, u43, u44, u45, u46, u47, u48, u49, rfl, HW5, HS5⟩ := HPO.out _ _ h
      have d85 := HB8.out W' HS5.out
      gi_wp2_with fail
      refine ⟨trivial, ?_⟩
      refine (callsIn_wide.2 (Pk.done_any X W' w.heap.size T HW5.out (by have := HTL.out; omega))).mono ?_
      rintro e w6' ⟨v6, rfl, ho6, hs6⟩
      have HSL6 := Lib.hid ho6.slc
      have HS6' := Lib.hid hs6
      obtain ⟨a6, c6, rfl⟩ := ho6.form
      clear ho6 hs6
      gi_wp2_with fail
      refine ⟨trivial, ?_⟩
      refine (callsIn_wide.2 (Hn.seal_any _ T w6' HSL6.out (by have := HTL.out; omega))).mono ?_
      rintro e w7 ⟨v7, rfl, ho7, hs7⟩
      have HKF := Lib.hid (HKD.out W' HS5.out w7 (HS6'.out.trans hs7))
      have HSF := Lib.hid (HS0.out w7 ((HS5.out.mono (fun j hj => (HXE.out j (HYX.out j hj)).1)).trans ((HS6'.out.trans hs7).mono (fun _ x => x.elim))))
      have HO7 := Lib.hid ho7
      have HZ7 := Lib.hid (show w.heap.size ≤ w6'.heap.size by have := HS5.out.size; have := HS6'.out.size; have := hS.size; omega)
      have HDW := Lib.hid (show ∀ j, v7.ownBlock = some j → j ≠ D by
        intro j hj hd
        subst hd
        have h1 := (Array.getElem?_eq_some_iff.1 (HKD.out W' HS5.out w6' HS6'.out)).1
        have := (ho7.lt j hj).1
        omega)
      clear ho7 hs7
      gi_wp2
      refine ⟨by simp, .inl ⟨_, _, rfl, run_takeDeferred HKF.out, ?_⟩⟩
      have hs8 : Stay (fun q => q = D) w7 (w7.putObj D (.deferred none)) := Stay.grown (grownBy_putObj' _ D _) (fun q e => by cases e; rfl)
      refine ⟨_, results_tmp rfl _ _ _, v7, rfl, ?_, ?_⟩
      · rw [HTT.out]
        exact (HO7.out.base (base' := w.heap.size) (fun j hj => Nat.le_trans HZ7.out (HO7.out.lt j hj).1)).stay hs8 (fun j hj h => HDW.out j hj h)
      · exact stay_seal (X := fun k => w.heap.size ≤ k) ((HSF.out.mono (fun _ x => x.elim)).trans (hs8.mono (fun k hk => by have hk' : k = D := hk; omega))) (fun k hk => hk)
    | _ => exact h.elim
  case stop =>
    rintro D cd pre W _ _ h _
    exact h.elim
end Go.Proofs.YtljlfdhjolcnaaaGreat.Tb

/-
  table: what was laid, taken off by a reader; a part's entries.
-/
namespace Go.Proofs.YtljlfdhjolcnaaaGreat.Tb
open Go.RowKit
open Pk (stay_seal)
open Me (En EnS EnO Box enC enV norm ltB Sorted getL posN hasB sizeL)
open Pk (spellB bytesB boolB textB takeB numB cntB truB RS Slc Owns RdAt)
set_option maxRecDepth 100000
set_option linter.unusedVariables false

section
variable (X : Nat → Prop) (w : World) (p : Nat)
theorem text_off (b r : List UInt8) (h : RdAt X w p ⟨bytesB b ++ r, 0⟩) (hl : (bytesB b ++ r).length ≤ 140737488355328) :
    Calls Tryz.prog 89 #[.pointer (some ⟨p, 0, none⟩), .int .i64 9223372036854775807] w fun e w' => e = .returned (.string ⟨b.toArray⟩) ∧ RdAt X w' p ⟨r, 0⟩ ∧ Stay (fun k => k = p) w w' := by
  have h1 := (len_bytesB b).1
  rw [List.length_append] at hl
  have h2 := Pk.rtext_any X w p _ 9223372036854775807 h (by show (bytesB b ++ r).length ≤ _; rw [List.length_append]; omega) (by decide)
  rw [take_text b r _ (by omega) (by omega)] at h2
  exact h2
theorem bytes_off (b r : List UInt8) (h : RdAt X w p ⟨bytesB b ++ r, 0⟩) (hl : (bytesB b ++ r).length ≤ 140737488355328) :
    Calls Tryz.prog 124 #[.pointer (some ⟨p, 0, none⟩), .int .i64 9223372036854775807] w fun e w' => (∃ v, e = .returned v ∧ Owns w.heap.size w' v b) ∧ RdAt X w' p ⟨r, 0⟩ ∧ Stay (fun k => k = p) w w' := by
  have h1 := (len_bytesB b).1
  rw [List.length_append] at hl
  have h2 := Pk.rbytes_any X w p _ 9223372036854775807 h (by show (bytesB b ++ r).length ≤ _; rw [List.length_append]; omega) (by decide)
  rw [take_text b r _ (by omega) (by omega)] at h2
  exact h2
theorem bool_off (g : Bool) (r : List UInt8) (h : RdAt X w p ⟨boolB g ++ r, 0⟩) :
    Calls Tryz.prog 90 #[.pointer (some ⟨p, 0, none⟩)] w fun e w' => e = .returned (.bool g) ∧ RdAt X w' p ⟨r, 0⟩ ∧ Stay (fun k => k = p) w w' := by
  have h2 := Pk.rbool_any X w p _ h
  rw [take_tru g r] at h2
  exact h2
theorem cnt_off (n : Nat) (r : List UInt8) (most : Int) (h : RdAt X w p ⟨spellB n ++ r, 0⟩) (hn : (n : Int) ≤ most) (hm : most ≤ 9223372036854775807) (hr : n ≤ r.length) (hl : (spellB n ++ r).length ≤ 140737488355328) :
    Calls Tryz.prog 88 #[.pointer (some ⟨p, 0, none⟩), .int .i64 most] w fun e w' => e = .returned (.int .i64 (n : Int)) ∧ RdAt X w' p ⟨r, 0⟩ ∧ Stay (fun k => k = p) w w' := by
  have h2 := Pk.rcount_any X w p _ most h hl hm
  rw [take_cnt n r most hn hm hr] at h2
  exact h2
theorem uint_off (n most : Nat) (r : List UInt8) (h : RdAt X w p ⟨spellB n ++ r, 0⟩) (hn : n ≤ most) (h64 : n < 2 ^ 64) :
    Calls Tryz.prog 138 #[.pointer (some ⟨p, 0, none⟩), .int .u64 most] w fun e w' => e = .returned (.int .u64 (n : Int)) ∧ RdAt X w' p ⟨r, 0⟩ ∧ Stay (fun k => k = p) w w' := by
  have h2 := Pk.ruint_any X w p _ most h
  rw [take_num n most r h64 hn] at h2
  exact h2
theorem done_off (h : RdAt X w p ⟨[], 0⟩) : Calls Tryz.prog 57 #[.pointer (some ⟨p, 0, none⟩)] w fun e w' => e = .returned .nilIface ∧ w = w' :=
  Pk.rdone_any X w p _ h
end
theorem rows_drop {L : List En} {j : Nat} {e : En} (he : L[j]? = some e) : rowsB (L.drop j) = bytesB e.k ++ (boolB e.g ++ (bytesB (norm e).v ++ rowsB (L.drop (j + 1)))) := by
  obtain ⟨h1, h2⟩ := List.getElem?_eq_some_iff.1 he
  rw [List.drop_eq_getElem_cons h1, h2, rowsB_cons, entB]
  simp only [List.append_assoc]
theorem rows_drop_le (L : List En) (j : Nat) : (rowsB (L.drop j)).length ≤ (rowsB L).length := by
  have : rowsB L = rowsB (L.take j) ++ rowsB (L.drop j) := by rw [← rowsB_append, List.take_append_drop]
  rw [this, List.length_append]
  omega

set_option maxHeartbeats 4000000 in
theorem take_any (w : World) (x : Value) (L : List En) (hx : Slc w x (spellB L.length ++ rowsB L)) (hl : L.length ≤ 1000000) (hz : sizeL L ≤ 10000000000000) (hn : ∀ e ∈ L, norm e = e) :
    Calls Tryz.prog 142 #[x] w fun e w' => (∃ v, e = .returned (.tuple #[v, .nilIface]) ∧ EnO w.heap.size w' v L) ∧ Stay (fun _ => False) w w' := by
  have hrl := len_rowsB L
  have hsp := (len_spellB L.length).2
  have hlen : (spellB L.length ++ rowsB L).length ≤ 140737488355328 := by rw [List.length_append]; omega
  have HDL := Lib.hid (show ∀ j, (rowsB (L.drop j)).length ≤ 100000000000000 from fun j => by have := rows_drop_le L j; omega)
  have HNN := Lib.hid hn
  have HX := Lib.hid hx
  clear hx hn
  go_enter Tryz.func142, Tryz.ntmps142
  go_wp2_with fail
  refine (Pk.read_cap w x _ HX.out hlen).mono ?_
  rintro e w1 ⟨p, rfl, hr1, hs1⟩
  have hz1 := hs1.size
  go_wp2_with fail
  refine (cnt_off _ w1 p L.length (rowsB L) _ hr1 (by omega) (by omega) (by omega) hlen).mono ?_
  rintro e w2 ⟨rfl, hr2, hs2⟩
  obtain ⟨X, hXd⟩ : ∃ X : Nat → Prop, X = fun k => w.heap.size ≤ k ∧ k < w1.heap.size := ⟨_, rfl⟩
  have HX1 := Lib.hid (show ∀ k, X k → w.heap.size ≤ k ∧ k < w1.heap.size by intro k h; rw [hXd] at h; exact h)
  rw [← hXd] at hr2
  have hpX := hr2.own
  have HR2 := Lib.hid hr2
  have hz2 := hs2.size
  have HS2 := Lib.hid (stay_seal (X := fun k => w.heap.size ≤ k) ((hs1.mono (fun _ x => x.elim)).trans (hs2.mono (fun k hk => by have := (HX1.out p hpX).1; omega))) (fun k hk => hk))
  have hcm : (L.length : Int) ≤ 1000000 := by omega
  clear hr1 hs1 hr2 hs2 hXd hlen hrl hsp hz HX
  go_wp2
  go_loopw [5, 10] (fun v i wr => ∃ k : Nat, k ≤ L.length ∧ i = .int .i64 (k : Int) ∧ Hid (EnO w1.heap.size wr v (L.take k)) ∧ Hid (RdAt X wr p ⟨rowsB (L.drop k), 0⟩) ∧ Stay (fun _ => False) w wr ∧ w1.heap.size ≤ wr.heap.size) (fun _ i _ => L.length - (intOf i).toNat)
  case atStart => exact ⟨0, Nat.zero_le _, rfl, Lib.hid (EnO.nil _ _), HR2, HS2.out, hz2⟩
  case round =>
    obtain ⟨k, hk, rfl, ho, hr, hst, hzr⟩ := hrel
    have HT := Lib.hid hst
    clear hst
    have hpw := HX1.out p hpX
    by_cases hlt : k < L.length
    · obtain ⟨e, he⟩ : ∃ e, L[k]? = some e := ⟨_, List.getElem?_eq_getElem (by omega)⟩
      have hne := HNN.out e (List.mem_of_getElem? he)
      have hrw := rows_drop he
      rw [hne] at hrw
      have hdl := HDL.out k
      have HTK := Lib.hid (show L.take (k + 1) = L.take k ++ [e] by
        obtain ⟨h1, h2⟩ := List.getElem?_eq_some_iff.1 he
        rw [List.take_succ_eq_append_getElem h1, h2])
      have hkl : (L.take k).length = k := by rw [List.length_take]; omega
      obtain ⟨M, hM⟩ : ∃ M, M = L.take k := ⟨_, rfl⟩
      rw [← hM] at ho HTK hkl
      have HKL := Lib.hid hkl
      obtain ⟨va, vc, rfl⟩ := ho.out.form
      rw [hkl] at ho ⊢
      have hr' := hr.out
      rw [hrw] at hr'
      rw [hrw] at hdl
      have HRW := Lib.hid hr'
      obtain ⟨R, hR⟩ : ∃ R, R = rowsB (L.drop (k + 1)) := ⟨_, rfl⟩
      rw [← hR] at HRW hdl
      have HRR := Lib.hid hR
      have HL2 := Lib.hid (show (boolB e.g ++ (bytesB e.v ++ R)).length ≤ 100000000000000 by rw [List.length_append] at hdl; omega)
      have HL3 := Lib.hid (show (bytesB e.v ++ R).length ≤ 100000000000000 by have := HL2.out; rw [List.length_append] at this; omega)
      have HL1 := Lib.hid hdl
      clear he hne hrw hM hkl hr' hdl hr hR
      go_wp2_with fail
      refine (text_off X wr p e.k _ HRW.out (by have := HL1.out; omega)).mono ?_
      rintro y w3 ⟨rfl, hr3, hs3⟩
      have HR3 := Lib.hid hr3
      have HO3 := Lib.hid (ho.out.stay hs3 (fun j hj e => by have := (ho.out.lt j hj).1; omega))
      have HT3 := Lib.hid hs3
      have hz3 := hs3.size
      clear hr3 hs3
      go_wp2_with fail
      refine (bool_off X w3 p e.g _ HR3.out).mono ?_
      rintro y w4 ⟨rfl, hr4, hs4⟩
      have HR4 := Lib.hid hr4
      have HO4 := Lib.hid (HO3.out.stay hs4 (fun j hj e => by have := (HO3.out.lt j hj).1; omega))
      have HT4 := Lib.hid (HT3.out.trans hs4)
      have hz4 := hs4.size
      clear hr4 hs4
      go_wp2_with fail
      refine (text_off X w4 p e.v R HR4.out (by have := HL3.out; omega)).mono ?_
      rintro y w5 ⟨rfl, hr5, hs5⟩
      have HR5 := Lib.hid hr5
      have HO5 := Lib.hid (HO4.out.stay hs5 (fun j hj e => by have := (HO4.out.lt j hj).1; omega))
      have HT5 := Lib.hid (HT4.out.trans hs5)
      have hz5 := hs5.size
      have hs6 : Stay (fun _ => False) w5 (w5.alloc (.cells (enC e).toArray 42)) := Stay.alloc _ _
      have hb6 := Box.new w5 e
      obtain ⟨w6, hw6⟩ : ∃ w6, w5.alloc (.cells (enC e).toArray 42) = w6 := ⟨_, rfl⟩
      rw [hw6] at hs6 hb6
      have W6 := Lib.hid (show w5.alloc (.cells #[.string ⟨e.k.toArray⟩, .string ⟨e.v.toArray⟩, .bool e.g] 42) = w6 from hw6)
      have HB6 := Lib.hid (hb6.one 1 (by omega) (by decide))
      have HO6 := Lib.hid (HO5.out.stay0 hs6)
      have HR6 := Lib.hid (HR5.out.stay0 hs6)
      have HT6 := Lib.hid (HT5.out.trans (hs6.mono (fun _ x => x.elim)))
      have hz6 := hs6.size
      clear hr5 hs5 hw6 hs6 hb6
      go_wp2_with (at_builtin; rw [W6.out]; refine Me.wpList_append_en rfl (.tmp 12) (.tmp 20) 34 rfl Tryz.underlying34 rfl rfl HO6.out HB6.out (by rw [HKL.out]; simp; omega) (by omega) ?_; intro v7 w7 ho7 hs7 hn7; have HO7 := Lib.hid ho7; have HS7 := Lib.hid hs7; have hz7 := hs7.size; clear ho7 hs7 hn7)
      refine ⟨⟨k + 1, by omega, by go_num, Lib.hid (by rw [HTK.out]; exact HO7.out), Lib.hid ?_, ?_, by omega⟩, by simp [intOf]; omega⟩
      · rw [← HRR.out]
        exact HR6.out.stay HS7.out (fun j hj _ e => by have := HX1.out j hj; have := (HO6.out.lt j e).1; omega)
      · exact stay_seal (X := fun j => w.heap.size ≤ j) (((HT.out.mono (fun _ x => x.elim)).trans (HT6.out.mono (fun j hj => by omega))).trans (HS7.out.mono (fun j e => by have := (HO6.out.lt j e).1; omega))) (fun j hj => hj)
    · obtain rfl : k = L.length := by omega
      have hrd := hr.out
      rw [List.drop_length] at hrd
      have ho' := ho.out
      rw [List.take_length] at ho'
      have HRD := Lib.hid hrd
      have HO' := Lib.hid ho'
      clear hrd ho' hr ho
      go_wp2_with fail
      refine (done_off X wr p HRD.out).mono ?_
      rintro e w5 ⟨rfl, rfl⟩
      go_wp2
      go_ret2
      exact ⟨⟨_, rfl, HO'.out.rebase (fun j hj => by have := (HO'.out.lt j hj).1; omega)⟩, HT.out⟩
end Go.Proofs.YtljlfdhjolcnaaaGreat.Tb

/-
  table: whether entries may be a part's; a part's entries told.
-/
namespace Go.Proofs.YtljlfdhjolcnaaaGreat.Tb
open Go.RowKit
open Pk (stay_seal)
open Me (En EnS EnO Box enC enV norm ltB Sorted getL posN hasB sizeL)
open Pk (spellB bytesB boolB textB takeB numB cntB truB RS Slc Owns RdAt)
set_option maxRecDepth 100000
set_option linter.unusedVariables false

theorem keyAt_chunk {L : List En} {p i j : Nat} (hj : j < p) : keyAt (chunk L p i) j = keyAt L (i * p + j) := by
  unfold keyAt
  rw [List.getD_eq_getElem?_getD, List.getD_eq_getElem?_getD, chunk_at hj]
/-- What a part's first and last keys are. -/
structure ChK (L : List En) (p i : Nat) (ch : List En) (m : Nat) (k0 kg : List UInt8) : Prop where
  is : ch = chunk L p i
  len : ch.length = m + 1
  first : keyAt ch 0 = k0
  first' : keyAt L (i * p) = k0
  last : keyAt ch m = kg
  next : i + 1 < cN L.length p → ltB kg (keyAt L ((i + 1) * p)) = true
  all : ltB (lastK L) kg = false
theorem chK_of {L : List En} {p i : Nat} (hs : Sorted L) (hp : 1 ≤ p) (hi : i < cN L.length p) : ∃ ch m k0 kg, ChK L p i ch m k0 kg := by
  have hin := (cN_lt hp).1 hi
  have hl := length_chunk L p i
  refine ⟨chunk L p i, (chunk L p i).length - 1, _, _, rfl, by omega, rfl, (chunk_key hp hin).symm, rfl, fun h => ?_, ?_⟩
  · rw [keyAt_chunk (by omega)]
    have h2 := (cN_lt (n := L.length) hp).1 h
    rw [Nat.add_mul, Nat.one_mul] at h2 ⊢
    exact key_lt hs (by omega) (by omega)
  · rw [keyAt_chunk (by omega)]
    exact key_le hs (by omega) (by omega)

/-- The slice of a table's parts, and a part of it. -/
theorem TAt.parts {w : World} {t p q : Nat} {L : List En} (h : TAt w t L p q) : ∃ g c, cN L.length p ≤ 1000000 ∧ w.cell? ⟨t, 1, none⟩ = some (.slice (some ⟨g, 0, none⟩) (cN L.length p) c) ∧ ∀ i, i < cN L.length p → w.cell? ⟨g, i * 2, none⟩ = some (Me.strV (keyAt L (i * p))) ∧ ∃ x, w.cell? ⟨g, i * 2 + 1, none⟩ = some x ∧ Slc w x (partB (chunk L p i)) := by
  have hle := cN_le (n := L.length) h.p1
  have hn2 := h.n2
  obtain ⟨v, pf, gf, hb, hpc, _⟩ := h.ex
  obtain ⟨g, c, rfl, hc⟩ := hpc.ex
  exact ⟨g, c, by omega, by rw [cell_of_row w t 1 _ _ _ hb]; rfl, hc⟩

set_option maxHeartbeats 4000000 in
theorem fits_any (w : World) (t p q i : Nat) (L : List En) (x : Value) (h : TAt w t L p q) (hi : i < cN L.length p) (hx : EnS w x (chunk L p i)) :
    Calls Tryz.prog 143 #[.pointer (some ⟨t, 0, none⟩), .int .i64 (i : Int), x] w fun e w' => e = .returned (.bool true) ∧ Stay (fun _ => False) w w' := by
  obtain ⟨ch, m, k0, kg, hk⟩ := chK_of h.srt h.p1 hi
  rw [← hk.is] at hx
  have hsc : decide (Sorted ch) = true := decide_eq_true (hk.is ▸ sorted_chunk h.srt p i)
  obtain ⟨g, c, hcb, hp1, hpc⟩ := h.parts
  have hf0 := (hpc i hi).1
  rw [hk.first'] at hf0
  have hlk := h.c2
  obtain ⟨kl, hkl⟩ : ∃ kl, kl = lastK L := ⟨_, rfl⟩
  rw [← hkl] at hlk
  have hall := hk.all
  rw [← hkl] at hall
  have HNX := Lib.hid (show i + 1 < cN L.length p → w.cell? ⟨g, (i + 1) * 2, none⟩ = some (Me.strV (keyAt L ((i + 1) * p))) ∧ ltB kg (keyAt L ((i + 1) * p)) = true from fun hn => ⟨(hpc _ hn).1, hk.next hn⟩)
  have hml : m + 1 ≤ 1000000 := by
    have h1 := length_chunk L p i
    have h2 := h.n2
    rw [← hk.is, hk.len] at h1
    omega
  obtain ⟨a0, cx, rfl⟩ := hx.form
  obtain ⟨e0, he0, hk0⟩ := at_of (L := ch) (i := 0) (by rw [hk.len]; omega)
  obtain ⟨e1, he1, hk1⟩ := at_of (L := ch) (i := m) (by rw [hk.len]; omega)
  obtain ⟨gx, ox, rfl, _, hcx⟩ := hx.at (by rw [hk.len]; omega)
  have d0 := (hcx _ e0 he0).1
  have d1 := (hcx _ e1 he1).1
  rw [← hk0, hk.first, Nat.zero_mul, Nat.add_zero] at d0
  rw [← hk1, hk.last] at d1
  rw [hk.len] at hx ⊢
  generalize cN L.length p = n at *
  obtain ⟨D, hDd⟩ : ∃ D : World → Prop, D = Stay (fun _ => False) w := ⟨_, rfl⟩
  have HD := Lib.hid (show ∀ W, D W → Stay (fun _ => False) w W by intro W h; rw [hDd] at h; exact h)
  have HDm := Lib.hid (show ∀ W, Stay (fun _ => False) w W → D W by intro W h; rw [hDd]; exact h)
  clear hDd
  have HN0 := Lib.hid (HDm.out _ (Stay.drew (w := w)))
  have k1 := fun i : InC D => (HD.out _ i.h).cell d0 (fun x => x)
  have k2 := fun i : InC D => (HD.out _ i.h).cell hp1 (fun x => x)
  have k3 := fun i : InC D => (HD.out _ i.h).cell hf0 (fun x => x)
  have HHP := Lib.hid hp1
  have HLK := Lib.hid hlk
  have HDD := Lib.hid d1
  have H1 := Lib.hid (show ∀ W, D W → Calls Tryz.prog 99 #[.slice (some ⟨gx, ox, none⟩) (m + 1) cx, .func (.func 100) #[] #[]] W fun e w' => e = .returned (.bool true) ∧ D w' from fun W hW => by
    have h2 := asc_any W _ ch (hx.stay0 (HD.out _ hW)) (by rw [hk.len]; exact hml)
    rw [hsc] at h2
    exact h2.mono fun e w' ⟨h3, h4⟩ => ⟨h3, HDm.out _ ((HD.out _ hW).trans h4)⟩)
  haveI : Nonempty (InC D) := ⟨⟨_, HN0.out⟩⟩
  have HGL := Lib.hid (show (Op.bytesLess kg kl || kg == kl) = true by rw [leq_not, hall]; rfl)
  have him : (i : Int) ≤ 1000000 := by omega
  have hin : (i : Int) < n := by omega
  have hnm : (n : Int) ≤ 1000000 := by omega
  have hmm : (m : Int) ≤ 1000000 := by omega
  have hm0 : ((m : Int) + 1 == 0) = false := beq_eq_false_iff_ne.2 (by omega)
  clear hk hx h hsc hpc hf0 hlk hkl hall he0 hk0 he1 hk1 hcx d0 d1 hp1
  go_enter Tryz.func143, Tryz.ntmps143
  go_wp2
  refine wp_region_class D HN0.out (by kernel_rfl) (by kernel_rfl) ?_
  repeat (go_big_quiet_step ((first
    | with_reducible exact calls_class H1.out)))
  refine wpQuiet_nil ?_
  rintro W ⟨iw, rfl⟩
  have hst := HD.out _ iw.h
  clear k1 k2 k3
  generalize iw.w = w9 at *
  have HS9 := Lib.hid hst
  have c1 := hst.cell HHP.out (fun x => x)
  have c2 := hst.cell HLK.out (fun x => x)
  have c3 := hst.cell HDD.out (fun x => x)
  clear hst
  by_cases hin2 : i + 1 < n
  · obtain ⟨hn1, hn2⟩ := HNX.out hin2
    have c4 := HS9.out.cell hn1 (fun x => x)
    obtain ⟨kn, hkn⟩ : ∃ kn, kn = keyAt L ((i + 1) * p) := ⟨_, rfl⟩
    rw [← hkn] at c4 hn2
    have hgn : Op.bytesLess kg kn = true := by rw [Me.less_eq]; exact hn2
    clear hn1 hn2 hkn
    go_wp2
    rw [HGL.out]
    go_ret
    exact ⟨rfl, HS9.out⟩
  · go_wp2
    rw [HGL.out]
    go_ret
    exact ⟨rfl, HS9.out⟩

theorem chunk_norm {L : List En} {p i : Nat} (h : ∀ e ∈ L, norm e = e) : ∀ e ∈ chunk L p i, norm e = e := fun e he => h e (List.mem_of_mem_drop (List.mem_of_mem_take he))
theorem open_seal (b : List UInt8) : Hn.openB (Hn.sealB b) = .ok b := by
  have hn : (Hn.sealB b).length = b.length + 4 := Hn.length_sealB b
  rw [Hn.open_form hn]
  unfold Hn.sealB
  rw [List.drop_left' rfl, List.take_left' rfl, if_pos rfl]

set_option maxHeartbeats 4000000 in
theorem part_any (w : World) (t p q i : Nat) (L : List En) (h : TAt w t L p q) (hi : i < cN L.length p) :
    Calls Tryz.prog 106 #[.pointer (some ⟨t, 0, none⟩), .int .i64 (i : Int)] w fun e w' => (∃ v, e = .returned (.tuple #[v, .nilIface]) ∧ EnO w.heap.size w' v (chunk L p i)) ∧ Stay (fun _ => False) w w' := by
  have HT := Lib.hid h
  obtain ⟨g, c, hcb, hp1, hpc⟩ := h.parts
  obtain ⟨_, x, hx1, hx2⟩ := hpc i hi
  have hpl := length_partB (chunk L p i)
  have hsc := size_chunk L p i
  have hlc := length_chunk L p i
  have hsz := h.sz
  have hn2 := h.n2
  have HI := Lib.hid hi
  obtain ⟨ch, hch⟩ : ∃ ch, ch = chunk L p i := ⟨_, rfl⟩
  rw [← hch] at hx2 hpl hsc hlc ⊢
  obtain ⟨T, hT⟩ : ∃ T, T = spellB ch.length ++ rowsB ch := ⟨_, rfl⟩
  obtain ⟨B, hB⟩ : ∃ B, B = partB ch := ⟨_, rfl⟩
  rw [← hB] at hx2 hpl
  have HOP := Lib.hid (Hn.open_any x B w hx2 (by omega))
  have HOE := Lib.hid (show Hn.openB B = .ok T by rw [hB, hT]; exact open_seal _)
  have HCE := Lib.hid hch
  have HTK := Lib.hid (show ∀ W y, Slc W y T → Calls Tryz.prog 142 #[y] W fun e w' => (∃ v, e = .returned (.tuple #[v, .nilIface]) ∧ EnO W.heap.size w' v ch) ∧ Stay (fun _ => False) W w' from fun W y hy =>
    take_any W y ch (hT ▸ hy) (by omega) (by omega) (by rw [hch]; exact chunk_norm h.nrm))
  clear hch hT hB
  obtain ⟨n, hn⟩ : ∃ n, n = cN L.length p := ⟨_, rfl⟩
  rw [← hn] at hp1 hcb hi
  have hin : (i : Int) < n := by omega
  have him : (i : Int) ≤ 1000000 := by omega
  have hnm : (n : Int) ≤ 1000000 := by omega
  clear hn h hpc hx2 hpl hsc hlc hsz
  go_enter Tryz.func106, Tryz.ntmps106
  go_wp2_with fail
  refine HOP.out.mono ?_
  rintro e w1 ⟨hret, hs1⟩
  rw [HOE.out] at hret
  obtain ⟨v1, rfl, ho1⟩ := hret
  obtain ⟨a1, c1, rfl⟩ := ho1.form
  have HSL := Lib.hid ho1.slc
  have HS1 := Lib.hid hs1
  clear ho1 hs1 HOP HOE
  go_wp2_with fail
  refine (HTK.out w1 _ HSL.out).mono ?_
  rintro e w2 ⟨⟨v2, rfl, ho2⟩, hs2⟩
  have HO2 := Lib.hid ho2
  have HS2 := Lib.hid (HS1.out.trans hs2)
  clear ho2 hs2 HTK
  go_wp2_with fail
  refine (fits_any w2 t p q i L v2 (HT.out.stay0 HS2.out) HI.out (HCE.out ▸ HO2.out.ens)).mono ?_
  rintro e w3 ⟨rfl, hs3⟩
  have HO3 := Lib.hid (HO2.out.stay0 hs3)
  have HS3 := Lib.hid (HS2.out.trans hs3)
  have hz1 := HS1.out.size
  clear hs3 HO2
  go_wp2
  go_ret2
  exact ⟨⟨_, rfl, HO3.out.rebase (fun j hj => by have := (HO3.out.lt j hj).1; omega)⟩, HS3.out⟩
end Go.Proofs.YtljlfdhjolcnaaaGreat.Tb

/-
  table: whether a table's numbers and keys can be.
-/
namespace Go.Proofs.YtljlfdhjolcnaaaGreat.Tb
open Go.RowKit
open Pk (stay_seal)
open Me (En EnS EnO Box enC enV norm ltB Sorted getL posN hasB sizeL)
open Pk (Slc)
set_option maxRecDepth 100000
set_option linter.unusedVariables false

theorem form1_any (w : World) (q : Pc) (a0 : Option Addr) (n c : Nat) (hq : q.x = .slice a0 n c) : Calls Tryz.prog 164 #[pcV q] w fun x w' => x = .returned (.string ⟨q.k.toArray⟩) ∧ Stay (fun _ => False) w w' := by
  obtain ⟨k, b, x⟩ := q
  dsimp only at hq
  subst hq
  have h2 : (w.alloc (.cells (pcC ⟨k, b, .slice a0 n c⟩).toArray 218)).cell? ⟨w.heap.size, 0, none⟩ = some (.string ⟨k.toArray⟩) := by
    rw [cell_of_row _ w.heap.size 0 _ _ _ (heap_alloc_new w _)]
    rfl
  have H2 := Lib.hid (show Stay (fun _ => False) w (w.alloc (.cells (pcC ⟨k, b, .slice a0 n c⟩).toArray 218)) from Stay.alloc _ _)
  unfold pcV pcC at *
  go_enter Tryz.func164, Tryz.ntmps164
  go_wp2
  go_ret
  exact ⟨rfl, H2.out⟩

theorem pc_at {w : World} {p : Nat} {L : List En} {g : Nat} (hc : ∀ i, i < cN L.length p → w.cell? ⟨g, i * 2, none⟩ = some (Me.strV (keyAt L (i * p))) ∧ ∃ x, w.cell? ⟨g, i * 2 + 1, none⟩ = some x ∧ Slc w x (partB (chunk L p i))) {i : Nat} (hi : i < cN L.length p) :
    ∃ r : Pc, r.k = keyAt L (i * p) ∧ (∃ a0 n c, r.x = .slice a0 n c) ∧ ∀ W, Stay (fun _ => False) w W → (loadVar 218 ⟨g, i * 2, none⟩).run Tryz.prog W = .ok (pcV r) W := by
  obtain ⟨h1, x, h2, h3⟩ := hc i hi
  obtain ⟨a0, c0, e, _⟩ := h3
  refine ⟨⟨keyAt L (i * p), [], x⟩, rfl, ⟨a0, _, c0, e⟩, fun W hW => run_load_pc (fun j u hu => ?_)⟩
  match j, hu with
  | 0, hu => cases hu; exact hW.cell h1 (fun x => x)
  | 1, hu => cases hu; exact hW.cell h2 (fun x => x)

set_option maxHeartbeats 4000000 in
theorem ascp_any (w : World) (L : List En) (p g c : Nat) (hp : 1 ≤ p) (hs : Sorted L) (hl : cN L.length p ≤ 1000000)
    (hc : ∀ i, i < cN L.length p → w.cell? ⟨g, i * 2, none⟩ = some (Me.strV (keyAt L (i * p))) ∧ ∃ x, w.cell? ⟨g, i * 2 + 1, none⟩ = some x ∧ Slc w x (partB (chunk L p i))) :
    Calls Tryz.prog 163 #[.slice (some ⟨g, 0, none⟩) (cN L.length p) c, .func (.func 164) #[] #[]] w fun e w' => e = .returned (.bool true) ∧ Stay (fun _ => False) w w' := by
  have HK := Lib.hid (show ∀ i, i + 1 < cN L.length p → ltB (keyAt L (i * p)) (keyAt L ((i + 1) * p)) = true from fun i hi => by
    have h1 := (cN_lt (n := L.length) hp).1 hi
    refine key_lt hs ?_ h1
    rw [Nat.add_mul]
    omega)
  have HP := Lib.hid (fun i (hi : i < cN L.length p) => pc_at hc hi)
  generalize cN L.length p = n at *
  have hlc : (n : Int) ≤ 1000000 := by omega
  clear hc hl
  go_enter Tryz.func163, Tryz.ntmps163
  go_wp2
  go_loopw [5] (fun i wr => ∃ k : Nat, i = .int .i64 ((k : Int) + 1) ∧ k ≤ n ∧ Stay (fun _ => False) w wr) (fun i _ => n + 1 - (intOf i).toNat)
  case atStart => exact ⟨0, rfl, Nat.zero_le _, Stay.refl _ _⟩
  case round =>
    obtain ⟨k, rfl, hk, hst⟩ := hrel
    have HS := Lib.hid hst
    clear hst
    by_cases hlt : k + 1 < n
    · obtain ⟨r1, hk1, ⟨x1, n1, c1, hx1⟩, hr1⟩ := HP.out k (by omega)
      obtain ⟨r2, hk2, ⟨x2, n2, c2, hx2⟩, hr2⟩ := HP.out (k + 1) hlt
      have hlt3 := HK.out k hlt
      rw [← hk1, ← hk2] at hlt3
      obtain ⟨D, hDd⟩ : ∃ D : World → Prop, D = Stay (fun _ => False) wr := ⟨_, rfl⟩
      have HD := Lib.hid (show ∀ W, D W → Stay (fun _ => False) wr W by intro W h; rw [hDd] at h; exact h)
      have HDm := Lib.hid (show ∀ W, Stay (fun _ => False) wr W → D W by intro W h; rw [hDd]; exact h)
      clear hDd
      have HN0 := Lib.hid (HDm.out _ (Stay.drew (w := wr)))
      have k1 := fun i : InC D => hr1 _ (HS.out.trans (HD.out _ i.h))
      have k2 := fun i : InC D => hr2 _ (HS.out.trans (HD.out _ i.h))
      have H1 := Lib.hid (show ∀ W, D W → Calls Tryz.prog 164 #[pcV r1] W fun e w' => e = .returned (.string ⟨r1.k.toArray⟩) ∧ D w' from fun W h => (form1_any W r1 _ _ _ hx1).mono fun e w' ⟨h1, h2⟩ => ⟨h1, HDm.out _ ((HD.out _ h).trans h2)⟩)
      have H2 := Lib.hid (show ∀ W, D W → Calls Tryz.prog 164 #[pcV r2] W fun e w' => e = .returned (.string ⟨r2.k.toArray⟩) ∧ D w' from fun W h => (form1_any W r2 _ _ _ hx2).mono fun e w' ⟨h1, h2⟩ => ⟨h1, HDm.out _ ((HD.out _ h).trans h2)⟩)
      clear hr1 hr2 hk1 hk2 hx1 hx2
      haveI : Nonempty (InC D) := ⟨⟨_, HN0.out⟩⟩
      go_wp2
      refine wp_region_class D HN0.out (by kernel_rfl) (by kernel_rfl) ?_
      repeat (go_big_quiet_step ((first
        | with_reducible exact calls_class H1.out
        | with_reducible exact calls_class H2.out)))
      refine quiet_load rfl 218 (.tmp 15) rfl ⟨g, (k + 1) * 2, none⟩ rfl _ k2 ?_
      go_frame
      repeat (go_big_quiet_step ((first
        | with_reducible exact calls_class H1.out
        | with_reducible exact calls_class H2.out)))
      refine quiet_load rfl 218 (.tmp 22) rfl ⟨g, k * 2, none⟩ rfl _ k1 ?_
      go_frame
      repeat (go_big_quiet_step ((first
        | with_reducible exact calls_class H1.out
        | with_reducible exact calls_class H2.out)))
      refine wpQuiet_nil ?_
      rintro W ⟨i, rfl⟩
      have hst := HD.out _ i.h
      clear k1 k2
      generalize i.w = w9 at *
      have HS9 := Lib.hid (HS.out.trans hst)
      clear hst
      rw [leq_not, hlt3]
      rw [show (!true) = false from rfl]
      go_wp2
      go_roundw
      case rel => exact ⟨k + 1, by go_num, by omega, HS9.out⟩
      case measure => simp [intOf]; omega
    · go_wp2
      go_ret
      exact ⟨rfl, HS.out⟩

set_option maxHeartbeats 4000000 in
theorem formed_any (w : World) (t p q : Nat) (L : List En) (h : TAt w t L p q) : Calls Tryz.prog 140 #[.pointer (some ⟨t, 0, none⟩)] w fun e w' => e = .returned (.bool true) ∧ Stay (fun _ => False) w w' := by
  obtain ⟨g, c, hcb, hp1, hpc⟩ := h.parts
  have hc0 := h.c0
  have hc2 := h.c2
  have hcp := cN_pos h.p1 h.n1
  have hle := cN_le (n := L.length) h.p1
  have hn2 := h.n2
  obtain ⟨n1, hn1⟩ : ∃ n1, cN L.length p = n1 + 1 := ⟨cN L.length p - 1, by omega⟩
  have hf := (hpc n1 (by omega)).1
  obtain ⟨kf, hkf⟩ : ∃ kf, kf = keyAt L (n1 * p) := ⟨_, rfl⟩
  obtain ⟨kl, hkl⟩ : ∃ kl, kl = lastK L := ⟨_, rfl⟩
  have hlt : Op.bytesLess kl kf = false := by
    rw [Me.less_eq, hkl, hkf]
    have h1 := (cN_lt (n := L.length) (i := n1) h.p1).1 (by omega)
    exact key_le h.srt (by omega) (by omega)
  rw [← hkl] at hc2
  rw [← hkf] at hf
  have HAS := Lib.hid (show ∀ W, Stay (fun _ => False) w W → Calls Tryz.prog 163 #[.slice (some ⟨g, 0, none⟩) (n1 + 1) c, .func (.func 164) #[] #[]] W fun e w' => e = .returned (.bool true) ∧ Stay (fun _ => False) W w' from fun W hW => by
    have := ascp_any W L p g c h.p1 h.srt hcb (fun i hi => by
      obtain ⟨h1, x, h2, h3⟩ := hpc i hi
      exact ⟨hW.cell h1 (fun x => x), x, hW.cell h2 (fun x => x), h3.stay0 hW⟩)
    rw [hn1] at this
    exact this)
  rw [hn1] at hp1 hle hcb
  generalize L.length = n at *
  have hnm : (n : Int) ≤ 1000000 := by omega
  have hn1m : (n1 : Int) ≤ 1000000 := by omega
  have hnn : (n1 : Int) + 1 ≤ n := by omega
  have hw1 : IntKind.i64.wrap (n1 : Int) = (n1 : Int) := IntWalk.i64_in _ (by omega)
  have hq1 : decide ((n1 : Int) + 1 < 1) = false := decide_eq_false (by omega)
  have hq2 : decide ((n : Int) < (n1 : Int) + 1) = false := decide_eq_false (by omega)
  clear hpc hkf hkl hn1 h hcp
  go_enter Tryz.func140, Tryz.ntmps140
  go_wp2
  go_quiet (fail)
  go_wp2_with fail
  refine (HAS.out _ (Pk.stay_drewN _ _)).mono ?_
  rintro e w2 ⟨rfl, hs2⟩
  have HS2 := Lib.hid ((Pk.stay_drewN (X := fun _ => False) w nq).trans hs2)
  clear hs2
  go_wp2
  go_ret
  exact ⟨rfl, HS2.out⟩
end Go.Proofs.YtljlfdhjolcnaaaGreat.Tb

/-
  table: the table of its own bytes.
-/
namespace Go.Proofs.YtljlfdhjolcnaaaGreat.Tb
open Go.RowKit
open Pk (stay_seal)
open Me (En EnS EnO Box enC enV norm ltB Sorted getL posN hasB sizeL)
open Pk (spellB bytesB boolB textB takeB numB cntB truB RS Slc Owns RdAt)
open Bo (FAt)
set_option maxRecDepth 100000
set_option linter.unusedVariables false

/-- Entries that a table can be made of here. -/
structure Good (L : List En) (p q : Nat) : Prop where
  p1 : 1 ≤ p
  q1 : 1 ≤ q
  n1 : 1 ≤ L.length
  n2 : L.length ≤ 1000
  srt : Sorted L
  nrm : ∀ e ∈ L, norm e = e
  sz : sizeL L ≤ 1000000
  qn : q * L.length ≤ 1048576

/-- A table's cells. -/
def tbC (n : Nat) (v : Value) (k : List UInt8) (f : Value) : Array Value := #[.int .i64 (n : Int), v, .string ⟨k.toArray⟩, f]
theorem hd_from (L : List En) (p : Nat) (i k : Nat) : hdN L p i (k + 1) = bytesB (keyAt L (i * p)) ++ (bytesB (partB (chunk L p i)) ++ hdN L p (i + 1) k) := by
  rw [hdN, headB, List.append_assoc]
theorem text_form (L : List En) (p q : Nat) : textT L p q = spellB L.length ++ (spellB (cN L.length p) ++ (hdN L p 0 (cN L.length p) ++ tailT L q)) := by
  unfold textT
  simp only [List.append_assoc]
theorem len_textT {L : List En} {p q : Nat} (h : Good L p q) : (textT L p q).length ≤ 10000000 := by
  have h1 := length_tabB (L := L) (p := p) (q := q) h.p1 h.qn
  have h2 := Hn.length_sealB (textT L p q)
  have h3 := h.sz
  have h4 := h.n2
  have h5 := h.qn
  unfold tabB at h1
  omega
/-- What is left behind the first i parts is no longer than all. -/
theorem len_left (L : List En) (p : Nat) : ∀ (k i : Nat), (hdN L p (i + 1) k).length ≤ (hdN L p i (k + 1)).length := by
  intro k i
  rw [hdN, List.length_append]
  omega

theorem len_parts {L : List En} {p q : Nat} (h : Good L p q) : cN L.length p ≤ (hdN L p 0 (cN L.length p) ++ tailT L q).length ∧ (spellB (cN L.length p) ++ (hdN L p 0 (cN L.length p) ++ tailT L q)).length ≤ 10000000 := by
  have h1 := (len_hdN (L := L) h.p1 (cN L.length p) (Nat.le_refl _)).1
  have h2 := len_textT h
  rw [text_form, List.length_append] at h2
  refine ⟨by rw [List.length_append]; omega, by omega⟩
theorem len_from (L : List En) (p : Nat) : ∀ (k i m : Nat), k + m = i → (hdN L p k m).length ≤ (hdN L p 0 i).length
  | 0, i, m, h => by
    obtain rfl : m = i := by omega
    exact Nat.le_refl _
  | k + 1, i, m, h => Nat.le_trans (len_left L p m k) (len_from L p k i (m + 1) (by omega))
theorem len_left_all {L : List En} {p q : Nat} (h : Good L p q) {k : Nat} (hk : k ≤ cN L.length p) : (hdN L p k (cN L.length p - k) ++ tailT L q).length ≤ 10000000 := by
  have h1 := (len_parts h).2
  have h2 := len_from L p k (cN L.length p) (cN L.length p - k) (by omega)
  rw [List.length_append, List.length_append] at h1
  rw [List.length_append]
  omega

theorem run_load_pcs {w : World} {t : Nat} {v : Value} (hc : w.cell? ⟨t, 1, none⟩ = some v) : (loadVar 170 ⟨t, 1, none⟩).run Tryz.prog w = .ok v w := by
  have hu := run_underlying (P := Tryz.prog) Tryz.underlying170 w
  simp [loadVar, isAgg, hu]
  rw [hc]
/-- A slice of one part, made. -/
theorem step_one_pc {ops : Array Oper} {Q : Exit → Act → World → Prop} {o : Oper} {a : Act} {w : World} {K : Act → World → Prop} {E : Prop} (hw : Region.wanted o (yielded ops a.tmps) = true) (x : Operand) (ho : o.op = .buildSlice 170 1 #[(0, x)]) (e : Pc) {a0 : Option Addr} {n c : Nat} (he : e.x = .slice a0 n c) (hx : a.eval x = pcV e)
    (h : K (a.put o.dst (.slice (some ⟨w.heap.size, 0, none⟩) 1 1)) (w.alloc (.cells (pcC e).toArray 218))) : if Region.wanted o (yielded ops a.tmps) = true then Oper.wp Tryz.prog o a w K Q else E := by
  obtain ⟨i0, hi0, hz0, hzs, hzb⟩ := info_parts info_pc
  rw [if_pos hw]
  refine wp_buildSlice 170 218 1 #[(0, x)] ho (pcC e).toArray i0 zeroP Tryz.underlying170 hi0 hz0 (by rw [hzs]; decide) (by rw [hzs]; decide) ?_ h
  rw [hzs]
  simp only [List.map_toArray, List.map_cons, List.map_nil, hx]
  simp [Instr.fill, pcV, pcC, zeroP, he, Value.cells, Array.range]
  apply Array.ext_getElem?
  intro j
  match j with
  | 0 => simp
  | 1 => simp
  | j + 2 => simp
theorem step_append_pc {base : Nat} {w : World} {v : Value} {Q : List Pc} {K : Act → World → Prop} {E : Prop} {ops : Array Oper} {o : Oper} {a : Act} {Q0 : Exit → Act → World → Prop} (hgd : o.guard = none) (s x : Operand)
    (ho : o.op = .call { callee := .builtin .append, args := #[s, x], argTypes := #[170, 170] }) (hs : a.eval s = v) (g : Nat) (hx : a.eval x = .slice (some ⟨g, 0, none⟩) 1 1) (q : Pc)
    (hm : PcOwn base w v Q) (hq : ∀ j u, (pcC q)[j]? = some u → w.cell? ⟨g, j, none⟩ = some u) (hsl : Slc w q.x q.b) (hne : 0 < q.b.length → q.x.ownBlock ≠ v.ownBlock) (hone : ∀ u ∈ pcC q, u.oneCell' = true) (hn : (Q.length + 1) * 40 ≤ 140737488355328) (hb : base ≤ w.heap.size)
    (h : ∀ v' w', PcOwn base w' v' (Q ++ [q]) → Stay (fun k => v.ownBlock = some k) w w' → (v'.ownBlock = v.ownBlock ∨ v'.ownBlock = some w.heap.size) → K (a.put o.dst v') w') : if Region.wanted o (yielded ops a.tmps) = true then Oper.wp Tryz.prog o a w K Q0 else E := by
  have hw : Region.wanted o (yielded ops a.tmps) = true := by simp [Region.wanted, hgd]
  rw [if_pos hw]
  obtain ⟨i0, hi0, hz0, hz1, hz2⟩ := info_parts info_pc
  obtain ⟨v', w', hrun, h1, h2, _, h4⟩ := run_append_own_at (P := Tryz.prog) w base 170 o.type _ i0 zeroP 2 40 Tryz.underlying170 hi0 hz0 hz1 hz2 rfl (by decide) v Q.length (pcRows Q) hm.row ⟨g, 0, none⟩ 1 1 (pcC q) rfl
    (fun j u hu => by rw [add_at, Nat.zero_add]; exact hq j u hu) hone (by unfold maxLen; omega) hn hb
  unfold Oper.wp execOp
  simp only [ho, resolve, invoke, builtin, Sem.run_bind, Sem.run_pure, Result.andThen_ok, List.map_toArray, List.map_cons, List.map_nil, hs, hx, hrun]
  have hst : Stay (fun k => v.ownBlock = some k) w w' := Stay.grown h2 (fun k hk => hk)
  have hold : ∀ z ∈ Q ++ [q], Slc w z.x z.b ∧ (0 < z.b.length → z.x.ownBlock ≠ v.ownBlock) := by
    intro z hz
    rcases List.mem_append.1 hz with hz | hz
    · exact ⟨hm.slc z hz, hm.ne z hz⟩
    · obtain rfl := List.mem_singleton.1 hz
      exact ⟨hsl, hne⟩
  refine h v' w' ⟨by rw [List.length_append, pcRows_snoc]; exact h1, fun z hz => ?_, fun z hz h0 e => ?_⟩ hst h4
  · obtain ⟨h5, h7⟩ := hold z hz
    obtain ⟨a0, c, e, hr, hn2⟩ := id h5
    refine ⟨a0, c, e, hr.stay hst (fun h0 ad ha hv => h7 h0 ?_), hn2⟩
    rw [e, ha, hv]
    rfl
  · obtain ⟨h5, h7⟩ := hold z hz
    rcases h4 with h4 | h4
    · exact h7 h0 (e.trans h4)
    · have := h5.blk_lt h0 _ (e.trans h4)
      omega

set_option maxHeartbeats 4000000 in
theorem open_kept (w : World) (x : Value) (L : List En) (p q : Nat) (hx : Slc w x (tabB L p q)) (hg : Good L p q) :
    Calls Tryz.prog 103 #[x] w fun e w' => (∃ t, e = .returned (.tuple #[.pointer (some ⟨t, 0, none⟩), .nilIface]) ∧ w.heap.size ≤ t ∧ ∀ W, Stay (fun k => k < w.heap.size) w' W → TAt W t L p q) ∧ Stay (fun _ => False) w w' := by
  have HG := Lib.hid hg
  obtain ⟨T, hT⟩ : ∃ T, T = textT L p q := ⟨_, rfl⟩
  have hTl := len_textT hg
  rw [← hT] at hTl
  obtain ⟨B, hB⟩ : ∃ B, B = tabB L p q := ⟨_, rfl⟩
  rw [← hB] at hx
  have hBl : B.length ≤ 20000000 := by
    rw [hB]
    unfold tabB
    rw [Hn.length_sealB, ← hT]
    omega
  have HOP := Lib.hid (Hn.open_any x B w hx (by omega))
  have HOE := Lib.hid (show Hn.openB B = .ok T by rw [hB, hT]; exact open_seal _)
  have HTE := Lib.hid (show T = spellB L.length ++ (spellB (cN L.length p) ++ (hdN L p 0 (cN L.length p) ++ tailT L q)) from hT.trans (text_form L p q))
  clear hx hB hT
  go_enter Tryz.func103, Tryz.ntmps103
  go_wp2_with fail
  refine HOP.out.mono ?_
  rintro e w1 ⟨hret, hs1⟩
  rw [HOE.out] at hret
  obtain ⟨v1, rfl, ho1⟩ := hret
  have HSL := Lib.hid ho1.slc
  obtain ⟨a1, c1, rfl⟩ := ho1.form
  have HS1 := Lib.hid hs1
  clear ho1 hs1 HOP HOE
  go_wp2_with fail
  refine (Pk.read_cap w1 _ T HSL.out (by omega)).mono ?_
  rintro e w2 ⟨r, rfl, hr2, hs2⟩
  have hz2 := hs2.size
  have HR2 := Lib.hid (HTE.out ▸ hr2)
  have HS2 := Lib.hid (HS1.out.trans hs2)
  clear hr2 hs2
  go_wp2_with fail
  refine (uint_off _ w2 r L.length 16384 _ HR2.out (by have := hg.n2; omega) (by have := hg.n2; omega)).mono ?_
  rintro e w3 ⟨rfl, hr3, hs3⟩
  obtain ⟨X, hXd⟩ : ∃ X : Nat → Prop, X = fun k => w1.heap.size ≤ k ∧ k < w2.heap.size := ⟨_, rfl⟩
  have HX1 := Lib.hid (show ∀ k, X k → w1.heap.size ≤ k ∧ k < w2.heap.size by intro k h; rw [hXd] at h; exact h)
  rw [← hXd] at hr3
  have hrX := hr3.own
  have HR3 := Lib.hid hr3
  have hz1 := HS1.out.size
  have hz3 := hs3.size
  have HS3 := Lib.hid (show Stay (fun _ => False) w w3 from stay_seal (X := fun k => w.heap.size ≤ k) ((HS2.out.mono (fun _ x => x.elim)).trans (hs3.mono (fun k hk => by have := (HX1.out r hrX).1; omega))) (fun k hk => hk))
  obtain ⟨n, hn⟩ : ∃ n, n = L.length := ⟨_, rfl⟩
  obtain ⟨N, hN⟩ : ∃ N, N = cN L.length p := ⟨_, rfl⟩
  have HLL := Lib.hid hn
  have HNN := Lib.hid hN
  have hnm : (n : Int) ≤ 1000 := by have := hg.n2; omega
  have hN1 : 1 ≤ N := by rw [hN]; exact cN_pos hg.p1 hg.n1
  have hNn : N ≤ n := by rw [hN, hn]; exact cN_le hg.p1
  have hNm : (N : Int) ≤ 1000 := by omega
  obtain ⟨t, ht⟩ : ∃ t, t = w3.heap.size := ⟨_, rfl⟩
  obtain ⟨w4, hw4⟩ : ∃ w4, w3.alloc (.cells (tbC n (.slice none 0 0) [] (.pointer none)) 172) = w4 := ⟨_, rfl⟩
  have hs4 : Stay (fun _ => False) w3 w4 := hw4 ▸ Stay.alloc _ _
  have hz4 : w4.heap.size = t + 1 := by rw [← hw4]; simp [ht]
  have HT4 := Lib.hid (show w4.heap[t]? = some (.cells (tbC n (.slice none 0 0) [] (.pointer none)) 172 (0, 0)) from by rw [ht, ← hw4]; exact heap_alloc_new w3 _)
  have W4 := Lib.hid (show w3.alloc (.cells #[.int .i64 (n : Int), .slice none 0 0, .string ⟨#[]⟩, .pointer none] 172) = w4 from hw4)
  rw [← hN] at HR3
  have HR4 := Lib.hid (HR3.out.stay0 hs4)
  have HS4 := Lib.hid (HS3.out.trans hs4)
  have HTW := Lib.hid ht
  rw [← hn]
  clear hr3 hs3 hXd hn hN ht hw4 hs4 HR2 HSL HTE hg HS3 HR3
  go_wp2_with fail
  rw [W4.out, ← HTW.out]
  have HCL := Lib.hid (len_parts HG.out)
  refine (cnt_off X w4 r N _ 16384 HR4.out (by omega) (by decide) (by rw [HNN.out]; exact HCL.out.1) (by rw [HNN.out]; exact Nat.le_trans HCL.out.2 (by decide))).mono ?_
  rintro e w5 ⟨rfl, hr5, hs5⟩
  have HR5 := Lib.hid hr5
  have hrt : r ≠ t := by have := (HX1.out r hrX).2; have := HTW.out; omega
  have HT5 := Lib.hid ((hs5.block t (by omega) (fun h => hrt h.symm)).trans HT4.out)
  have hz5 := hs5.size
  have HS5 := Lib.hid (show Stay (fun _ => False) w w5 from stay_seal (X := fun k => w.heap.size ≤ k) ((HS4.out.mono (fun _ x => x.elim)).trans (hs5.mono (fun k hk => by have := (HX1.out r hrX).1; omega))) (fun k hk => hk))
  clear hr5 hs5 HR4 HT4 HS4 W4
  go_wp2
  go_loopw [25] (fun i wr => ∃ (k : Nat) (v : Value) (Q : List Pc), k ≤ N ∧ i = .int .i64 (k : Int) ∧ Hid (wr.heap[t]? = some (.cells (tbC n v [] (.pointer none)) 172 (0, 0))) ∧ Hid (PcOwn (t + 1) wr v Q) ∧ Hid (Q.length = k) ∧ Hid (∀ i q, Q[i]? = some q → q.k = keyAt L (i * p) ∧ q.b = partB (chunk L p i)) ∧ Hid (∀ q ∈ Q, 0 < q.b.length → ∀ j, q.x.ownBlock = some j → t < j) ∧ Hid (RdAt X wr r ⟨hdN L p k (N - k) ++ tailT L q, 0⟩) ∧ Stay (fun _ => False) w wr ∧ t + 1 ≤ wr.heap.size) (fun i _ => N - (intOf i).toNat)
  case atStart => exact ⟨0, .slice none 0 0, [], Nat.zero_le _, rfl, HT5, Lib.hid (PcOwn.nil _ _), Lib.hid rfl, Lib.hid (fun i q h => by simp at h), Lib.hid (fun _ hq => (List.not_mem_nil hq).elim), by rw [Nat.sub_zero]; exact HR5, HS5.out, by omega⟩
  case round =>
    obtain ⟨k, v, Q, hk, rfl, htb, hpo, hql, hqs, hqb, hrd, hst, hzr⟩ := hrel
    have HT := Lib.hid hst
    clear hst
    by_cases hlt : k < N
    · obtain ⟨M, hM⟩ : ∃ M, N - k = M + 1 := ⟨N - k - 1, by omega⟩
      obtain ⟨ky, hky⟩ : ∃ ky, ky = keyAt L (k * p) := ⟨_, rfl⟩
      obtain ⟨pb, hpb⟩ : ∃ pb, pb = partB (chunk L p k) := ⟨_, rfl⟩
      obtain ⟨rest, hrest⟩ : ∃ rest, rest = hdN L p (k + 1) M ++ tailT L q := ⟨_, rfl⟩
      have hform : hdN L p k (N - k) ++ tailT L q = bytesB ky ++ (bytesB pb ++ rest) := by rw [hM, hd_from, hky, hpb, hrest]; simp only [List.append_assoc]
      have hrd' := hrd.out
      rw [hform] at hrd'
      have HRD := Lib.hid (hrd'.stay0 (Stay.drew (w := wr)))
      have HL1 := Lib.hid (show (bytesB ky ++ (bytesB pb ++ rest)).length ≤ 140737488355328 by
        rw [← hform]
        have := len_left_all HG.out (k := k) (by rw [← HNN.out]; omega)
        rw [← HNN.out] at this
        omega)
      have HL2 := Lib.hid (show (bytesB pb ++ rest).length ≤ 140737488355328 by have := HL1.out; rw [List.length_append] at this; omega)
      have HLD := Lib.hid (show ∀ W, Stay (fun j => j = r) wr W → W.cell? ⟨t, 1, none⟩ = some v from fun W hW => hW.cell (by rw [cell_of_row wr t 1 _ _ _ htb.out]; rfl) (fun h => hrt h.symm))
      have HPO := Lib.hid (show ∀ W, Stay (fun j => j = r) wr W → PcOwn (t + 1) W v Q from fun W hW => hpo.out.stay hW (fun j hj h => by have := (hpo.out.lt j hj).1; have := (HX1.out r hrX).2; have := HTW.out; omega) (fun z hz h0 j hj h => by have := hqb.out z hz h0 j hj; have := (HX1.out r hrX).2; have := HTW.out; omega))
      have HNE := Lib.hid (show ∀ v4 : Value, (∀ j, v4.ownBlock = some j → wr.heap.size ≤ j) → 0 < pb.length → ∀ W, Slc W v4 pb → v4.ownBlock ≠ v.ownBlock from fun v4 h4 h0 W hsl e => by
        obtain ⟨a9, c9, e9, hr9, _⟩ := hsl
        obtain ⟨ad, e8, _⟩ := hr9 h0
        have e7 : v4.ownBlock = some ad.block := by rw [e9, e8]; rfl
        have h5 := h4 _ e7
        have h6 := (hpo.out.lt ad.block (by rw [← e, e7])).2
        omega)
      have HQN := Lib.hid (show (Q.length + 1) * 40 ≤ 140737488355328 by rw [hql.out]; omega)
      have HBW := Lib.hid hzr
      have HTB := Lib.hid (show ∀ w5 w6, Stay (fun j => j = r) wr w5 → Stay (fun j => v.ownBlock = some j) w5 w6 → w6.heap[t]? = some (.cells (tbC n v [] (.pointer none)) 172 (0, 0)) from fun w5 w6 h5 h6 =>
        (h6.block t (by have := h5.size; omega) (fun h => by have := (hpo.out.lt t h).1; omega)).trans ((h5.block t (by omega) (fun h => hrt h.symm)).trans htb.out))
      have HREL := Lib.hid (show ∀ v6 w5 w6 ck, PcOwn (t + 1) w6 v6 (Q ++ [⟨ky, pb, ck⟩]) → Stay (fun j => v.ownBlock = some j) w5 w6 → (v6.ownBlock = v.ownBlock ∨ v6.ownBlock = some w5.heap.size) → RdAt X w5 r ⟨rest, 0⟩ → Stay (fun j => j = r) wr w5 → (∀ j, ck.ownBlock = some j → wr.heap.size ≤ j) →
          ∃ (k' : Nat) (v' : Value) (Q' : List Pc), k' ≤ N ∧ k' = k + 1 ∧ Hid ((w6.setCell ⟨t, 1, none⟩ v6).heap[t]? = some (.cells (tbC n v' [] (.pointer none)) 172 (0, 0))) ∧ Hid (PcOwn (t + 1) (w6.setCell ⟨t, 1, none⟩ v6) v' Q') ∧ Hid (Q'.length = k') ∧ Hid (∀ i q, Q'[i]? = some q → q.k = keyAt L (i * p) ∧ q.b = partB (chunk L p i)) ∧ Hid (∀ q ∈ Q', 0 < q.b.length → ∀ j, q.x.ownBlock = some j → t < j) ∧ Hid (RdAt X (w6.setCell ⟨t, 1, none⟩ v6) r ⟨hdN L p k' (N - k') ++ tailT L q, 0⟩) ∧ Stay (fun _ => False) w (w6.setCell ⟨t, 1, none⟩ v6) ∧ t + 1 ≤ (w6.setCell ⟨t, 1, none⟩ v6).heap.size from fun v6 w5 w6 ck ho hs6 hn6 hr5 hs5 hck => by
        have ht6 := HTB.out w5 w6 hs5 hs6
        have hsz5 := hs5.size
        have hsz6 := hs6.size
        have hset : Stay (fun j => j = t) w6 (w6.setCell ⟨t, 1, none⟩ v6) := Stay.setCell _ _ _ rfl
        have hqb' : ∀ q ∈ Q ++ [(⟨ky, pb, ck⟩ : Pc)], 0 < q.b.length → ∀ j, q.x.ownBlock = some j → t < j := by
          intro z hz h0 j hj
          rcases List.mem_append.1 hz with hz | hz
          · exact hqb.out z hz h0 j hj
          · obtain rfl := List.mem_singleton.1 hz
            have := hck j hj
            omega
        refine ⟨k + 1, v6, Q ++ [⟨ky, pb, ck⟩], by omega, rfl, Lib.hid ?_, Lib.hid ?_, Lib.hid (by rw [List.length_append, hql.out]; rfl), Lib.hid ?_, Lib.hid hqb', Lib.hid ?_, ?_, by simp; omega⟩
        · exact heap_setCell_same w6 t 1 _ _ v6 ht6
        · refine ho.stay hset (fun j hj h => ?_) (fun z hz h0 j hj h => by have := hqb' z hz h0 j hj; omega)
          have := (ho.lt j hj).1
          omega
        · intro i z hz
          rcases Nat.lt_or_ge i Q.length with h | h
          · rw [List.getElem?_append_left h] at hz
            exact hqs.out i z hz
          · rw [List.getElem?_append_right h] at hz
            have hi : i - Q.length = 0 := by
              have := (List.getElem?_eq_some_iff.1 hz).1
              simp at this
              omega
            rw [hi] at hz
            simp at hz
            subst hz
            have : i = k := by have := hql.out; omega
            subst this
            exact ⟨hky, hpb⟩
        · rw [show N - (k + 1) = M by omega, ← hrest]
          exact (hr5.stay hs6 (fun j hj _ h => by have := (hpo.out.lt j h).1; have := (HX1.out j hj).2; have := HTW.out; omega)).stay hset (fun j hj _ h => by have := (HX1.out j hj).2; have := HTW.out; omega)
        · exact stay_seal (X := fun j => w.heap.size ≤ j) (((HT.out.mono (fun _ x => x.elim)).trans (hs5.mono (fun j hj => by have := (HX1.out r hrX).1; omega))).trans ((hs6.mono (fun j hj => by have := (hpo.out.lt j hj).1; have := HTW.out; omega)).trans (hset.mono (fun j hj => by have := HTW.out; omega)))) (fun j hj => hj))
      clear hform hrd' hrest hM hky hpb
      go_wp2
      refine wp_region_held (S := Stay (fun j => j = r ∨ j = t ∨ v.ownBlock = some j) wr.drew) (by kernel_rfl) ?_
      change wpAnyH _ _ _ _ _ _ _ _ (World.drew _)
      refine wpAnyH_takeL (i := 0) (v := .pointer (some ⟨t, 0, none⟩)) #[true, false, false, false, false, false, false, false, false, false, false, false, false, false, false] rfl (by kernel_rfl) (by kernel_rfl) (by kernel_rfl) (fun _ _ _ h => h) (by kernel_rfl) (Stay.refl _ _) (Or.inl ⟨by rfl, fun W hW => ?_⟩) ?_
      · go_simp
      conv => arg 8; simp [Act.put]
      refine wpAnyH_takeL (i := 1) (v := .pointer (some ⟨t, 0, none⟩)) #[true, true, false, false, false, false, false, false, false, false, false, false, false, false, false] rfl (by kernel_rfl) (by kernel_rfl) (by kernel_rfl) (fun _ _ _ h => h) (by kernel_rfl) (Stay.refl _ _) (Or.inl ⟨by rfl, fun W hW => ?_⟩) ?_
      · go_simp
      conv => arg 8; simp [Act.put]
      refine wpAnyH_takeL (i := 2) (v := .pointer (some ⟨t, 0, none⟩)) #[true, true, true, false, false, false, false, false, false, false, false, false, false, false, false] rfl (by kernel_rfl) (by kernel_rfl) (by kernel_rfl) (fun _ _ _ h => h) (by kernel_rfl) (Stay.refl _ _) (Or.inl ⟨by rfl, fun W hW => ?_⟩) ?_
      · go_simp
      conv => arg 8; simp [Act.put]
      refine wpAnyH_takeL (i := 3) (v := .pointer (some ⟨t, 1, none⟩)) #[true, true, true, true, false, false, false, false, false, false, false, false, false, false, false] rfl (by kernel_rfl) (by kernel_rfl) (by kernel_rfl) (fun _ _ _ h => h) (by kernel_rfl) (Stay.refl _ _) (Or.inl ⟨by rfl, fun W hW => ?_⟩) ?_
      · go_simp
      conv => arg 8; simp [Act.put]
      refine wpAnyH_takeL (i := 5) (v := .pointer (some ⟨r, 0, none⟩)) #[true, true, true, true, false, true, false, false, false, false, false, false, false, false, false] rfl (by kernel_rfl) (by kernel_rfl) (by kernel_rfl) (fun _ _ _ h => h) (by kernel_rfl) (Stay.refl _ _) (Or.inl ⟨by rfl, fun W hW => ?_⟩) ?_
      · go_simp
      conv => arg 8; simp [Act.put]
      refine wpAnyH_takeL (i := 7) (v := .pointer (some ⟨r, 0, none⟩)) #[true, true, true, true, false, true, false, true, false, false, false, false, false, false, false] rfl (by kernel_rfl) (by kernel_rfl) (by kernel_rfl) (fun _ _ _ h => h) (by kernel_rfl) (Stay.refl _ _) (Or.inl ⟨by rfl, fun W hW => ?_⟩) ?_
      · go_simp
      conv => arg 8; simp [Act.put]
      refine wpAnyH_ready (rs := [4, 6]) (by kernel_rfl) (by simp) ?_
      refine AllReadyH.cons (o := _) rfl (fun K hK => ?_) ?_
      · refine Me.step_load_run rfl 170 (.tmp 30) rfl ⟨t, 1, none⟩ rfl v (run_load_pcs (HLD.out wr.drew Stay.drew)) ?_
        refine Shut.out hK _ _ (Stay.refl _ _) (fun _ => ?_)
        clear hK
        refine wpAnyH_listedL #[true, true, true, true, true, true, false, true, false, false, false, false, false, false, false] (by kernel_rfl) ?_
        conv => arg 8; simp [Act.put]
        refine wpAnyH_one #[true, true, true, true, true, true, true, true, false, false, false, false, false, false, false] (i := 6) rfl (by kernel_rfl) (by kernel_rfl) (fun K hK => ?_)
        go_simp
        go_wp2_with (go_at_call 89; refine (text_off X wr.drew r ky _ HRD.out HL1.out).mono ?_; rintro y w3 ⟨rfl, h3, s3⟩; have HR3 := Lib.hid h3; have HS3 := Lib.hid (show Stay (fun j => j = r ∨ j = t ∨ v.ownBlock = some j) wr.drew w3 from s3.mono (fun j hj => .inl hj)); have HL3 := Lib.hid (show Stay (fun j => j = r) wr w3 from (Stay.drew (X := fun j => j = r) (w := wr)).trans s3); clear h3 s3)
        refine hK _ _ HS3.out ?_
        clear hK
        conv => arg 8; simp [Act.put]
        refine wpAnyH_one #[true, true, true, true, true, true, true, true, true, false, false, false, false, false, false] (i := 8) rfl (by kernel_rfl) (by kernel_rfl) (fun K hK => ?_)
        go_simp
        go_wp2_with (go_at_call 124; refine (bytes_off X w3 r pb rest HR3.out HL2.out).mono ?_; rintro y w4 ⟨⟨v4, rfl, o4⟩, h4, s4⟩; have HO4 := Lib.hid o4; have HR4 := Lib.hid h4; have HS4 := Lib.hid (show Stay (fun j => j = r ∨ j = t ∨ v.ownBlock = some j) wr.drew w4 from HS3.out.trans (s4.mono (fun j hj => .inl hj))); have HL4 := Lib.hid (show Stay (fun j => j = r) wr w4 from HL3.out.trans s4); clear h4 s4 o4)
        refine hK _ _ HS4.out ?_
        clear hK
        conv => arg 8; simp [Act.put]
        obtain ⟨a4, c4, hv4⟩ := HO4.out.form
        refine wpAnyH_takeL (i := 9) (v := pcV ⟨ky, pb, v4⟩) #[true, true, true, true, true, true, true, true, true, true, false, false, false, false, false] rfl (by kernel_rfl) (by kernel_rfl) (by kernel_rfl) (fun _ _ _ h => h) (by kernel_rfl) HS4.out (Or.inl ⟨by rfl, fun W hW => ?_⟩) ?_
        · unfold pcV pcC
          go_simp
        conv => arg 8; simp [Act.put]
        refine wpAnyH_one #[true, true, true, true, true, true, true, true, true, true, true, false, false, false, false] (i := 10) rfl (by kernel_rfl) (by kernel_rfl) (fun K hK => ?_)
        refine step_one_pc rfl (.tmp 36) rfl ⟨ky, pb, v4⟩ hv4 rfl ?_
        obtain ⟨w5, hw5⟩ : ∃ w5, w4.alloc (.cells (pcC ⟨ky, pb, v4⟩).toArray 218) = w5 := ⟨_, rfl⟩
        have hs5 : Stay (fun _ => False) w4 w5 := hw5 ▸ Stay.alloc _ _
        have HB5 := Lib.hid (show ∀ j u, (pcC ⟨ky, pb, v4⟩)[j]? = some u → w5.cell? ⟨w4.heap.size, j, none⟩ = some u from fun j u hu => by rw [← hw5, cell_of_row _ w4.heap.size j _ _ _ (heap_alloc_new w4 _)]; simpa using hu)
        have HS5 := Lib.hid (HS4.out.trans (hs5.mono (fun _ x => x.elim)))
        have HL5 := Lib.hid (HL4.out.trans (hs5.mono (fun _ x => x.elim)))
        have HR5 := Lib.hid (HR4.out.stay0 hs5)
        have HSL5 := Lib.hid (HO4.out.slc.stay0 hs5)
        have HPC5 := Lib.hid (HPO.out w5 HL5.out)
        have HZ5 := Lib.hid (show ∀ j, v4.ownBlock = some j → wr.heap.size ≤ j from fun j hj => Nat.le_trans HL3.out.size (HO4.out.lt j hj).1)
        rw [hw5]
        clear hw5 hs5
        refine hK _ _ HS5.out ?_
        clear hK
        conv => arg 8; simp [Act.put]
        refine wpAnyH_one #[true, true, true, true, true, true, true, true, true, true, true, true, false, false, false] (i := 11) rfl (by kernel_rfl) (by kernel_rfl) (fun K hK => ?_)
        refine step_append_pc rfl (.tmp 31) (.tmp 37) rfl rfl w4.heap.size rfl ⟨ky, pb, v4⟩ HPC5.out HB5.out HSL5.out (fun h0 => HNE.out v4 HZ5.out h0 _ HSL5.out) (one_pc _ _ _ _ hv4) HQN.out (by have := HL5.out.size; have := HBW.out; omega) ?_
        intro v6 w6 o6 s6 n6
        obtain ⟨a6, l6, c6, rfl⟩ : ∃ a l c, v6 = .slice a l c := by obtain ⟨a, c, e⟩ := o6.form; exact ⟨a, _, c, e⟩
        have HO6 := Lib.hid o6
        have HS6 := Lib.hid s6
        have HN6 := Lib.hid n6
        have HS6' := Lib.hid (show Stay (fun j => j = r ∨ j = t ∨ v.ownBlock = some j) wr.drew w6 from HS5.out.trans (s6.mono (fun j hj => .inr (.inr hj))))
        clear o6 s6 n6
        refine hK _ _ HS6'.out ?_
        clear hK
        conv => arg 8; simp [Act.put]
        refine wpAnyH_takeL (i := 12) (v := .pointer (some ⟨t, 0, none⟩)) #[true, true, true, true, true, true, true, true, true, true, true, true, true, false, false] rfl (by kernel_rfl) (by kernel_rfl) (by kernel_rfl) (fun _ _ _ h => h) (by kernel_rfl) HS6'.out (Or.inl ⟨by rfl, fun W hW => ?_⟩) ?_
        · go_simp
        conv => arg 8; simp [Act.put]
        refine wpAnyH_takeL (i := 13) (v := .pointer (some ⟨t, 1, none⟩)) #[true, true, true, true, true, true, true, true, true, true, true, true, true, true, false] rfl (by kernel_rfl) (by kernel_rfl) (by kernel_rfl) (fun _ _ _ h => h) (by kernel_rfl) HS6'.out (Or.inl ⟨by rfl, fun W hW => ?_⟩) ?_
        · go_simp
        conv => arg 8; simp [Act.put]
        refine wpAnyH_one #[true, true, true, true, true, true, true, true, true, true, true, true, true, true, true] (i := 14) rfl (by kernel_rfl) (by kernel_rfl) (fun K hK => ?_)
        have ht6 := HTB.out _ w6 HL5.out HS6.out
        have hc6 : w6.cell? ⟨t, 1, none⟩ = some v := by rw [cell_of_row w6 t 1 _ _ _ ht6]; rfl
        have hf6 := frozen_of_row w6 t 1 _ _ ht6
        go_simp
        refine hK _ _ (HS6'.out.trans (Stay.setCell (X := fun j => j = r ∨ j = t ∨ v.ownBlock = some j) w6 ⟨t, 1, none⟩ (.slice a6 l6 c6) (Or.inr (Or.inl rfl)))) ?_
        clear hK
        conv => arg 8; simp [Act.put]
        clear ht6 hc6 hf6
        refine wpAnyH_done (by kernel_rfl) ?_ _
        go_wp2
        go_roundw
        case rel =>
          obtain ⟨k', v', Q', e1, e2, e3, e4, e5, e6, e7, e8, e9, e10⟩ := HREL.out _ _ w6 v4 HO6.out HS6.out HN6.out HR5.out HL5.out HZ5.out
          exact ⟨k', v', Q', e1, by subst e2; go_num, e3, e4, e5, e6, e7, e8, e9, e10⟩
        case measure => simp [intOf]; omega
      refine AllReadyH.cons (o := _) rfl (fun K hK => ?_) ?_
      · go_simp
        go_wp2_with (go_at_call 89; refine (text_off X wr.drew r ky _ HRD.out HL1.out).mono ?_; rintro y w3 ⟨rfl, h3, s3⟩; have HR3 := Lib.hid h3; have HS3 := Lib.hid (show Stay (fun j => j = r ∨ j = t ∨ v.ownBlock = some j) wr.drew w3 from s3.mono (fun j hj => .inl hj)); have HL3 := Lib.hid (show Stay (fun j => j = r) wr w3 from (Stay.drew (X := fun j => j = r) (w := wr)).trans s3); clear h3 s3)
        refine Shut.out hK _ _ HS3.out (fun _ => ?_)
        clear hK
        refine wpAnyH_listedL #[true, true, true, true, false, true, true, true, false, false, false, false, false, false, false] (by kernel_rfl) ?_
        conv => arg 8; simp [Act.put]
        refine wpAnyH_ready (rs := [4, 8]) (by kernel_rfl) (by simp) ?_
        refine AllReadyH.cons (o := _) rfl (fun K hK => ?_) ?_
        · refine Me.step_load_run rfl 170 (.tmp 30) rfl ⟨t, 1, none⟩ rfl v (run_load_pcs (HLD.out w3 HL3.out)) ?_
          refine Shut.out hK _ _ HS3.out (fun _ => ?_)
          clear hK
          refine wpAnyH_listedL #[true, true, true, true, true, true, true, true, false, false, false, false, false, false, false] (by kernel_rfl) ?_
          conv => arg 8; simp [Act.put]
          refine wpAnyH_one #[true, true, true, true, true, true, true, true, true, false, false, false, false, false, false] (i := 8) rfl (by kernel_rfl) (by kernel_rfl) (fun K hK => ?_)
          go_simp
          go_wp2_with (go_at_call 124; refine (bytes_off X w3 r pb rest HR3.out HL2.out).mono ?_; rintro y w4 ⟨⟨v4, rfl, o4⟩, h4, s4⟩; have HO4 := Lib.hid o4; have HR4 := Lib.hid h4; have HS4 := Lib.hid (show Stay (fun j => j = r ∨ j = t ∨ v.ownBlock = some j) wr.drew w4 from HS3.out.trans (s4.mono (fun j hj => .inl hj))); have HL4 := Lib.hid (show Stay (fun j => j = r) wr w4 from HL3.out.trans s4); clear h4 s4 o4)
          refine hK _ _ HS4.out ?_
          clear hK
          conv => arg 8; simp [Act.put]
          obtain ⟨a4, c4, hv4⟩ := HO4.out.form
          refine wpAnyH_takeL (i := 9) (v := pcV ⟨ky, pb, v4⟩) #[true, true, true, true, true, true, true, true, true, true, false, false, false, false, false] rfl (by kernel_rfl) (by kernel_rfl) (by kernel_rfl) (fun _ _ _ h => h) (by kernel_rfl) HS4.out (Or.inl ⟨by rfl, fun W hW => ?_⟩) ?_
          · unfold pcV pcC
            go_simp
          conv => arg 8; simp [Act.put]
          refine wpAnyH_one #[true, true, true, true, true, true, true, true, true, true, true, false, false, false, false] (i := 10) rfl (by kernel_rfl) (by kernel_rfl) (fun K hK => ?_)
          refine step_one_pc rfl (.tmp 36) rfl ⟨ky, pb, v4⟩ hv4 rfl ?_
          obtain ⟨w5, hw5⟩ : ∃ w5, w4.alloc (.cells (pcC ⟨ky, pb, v4⟩).toArray 218) = w5 := ⟨_, rfl⟩
          have hs5 : Stay (fun _ => False) w4 w5 := hw5 ▸ Stay.alloc _ _
          have HB5 := Lib.hid (show ∀ j u, (pcC ⟨ky, pb, v4⟩)[j]? = some u → w5.cell? ⟨w4.heap.size, j, none⟩ = some u from fun j u hu => by rw [← hw5, cell_of_row _ w4.heap.size j _ _ _ (heap_alloc_new w4 _)]; simpa using hu)
          have HS5 := Lib.hid (HS4.out.trans (hs5.mono (fun _ x => x.elim)))
          have HL5 := Lib.hid (HL4.out.trans (hs5.mono (fun _ x => x.elim)))
          have HR5 := Lib.hid (HR4.out.stay0 hs5)
          have HSL5 := Lib.hid (HO4.out.slc.stay0 hs5)
          have HPC5 := Lib.hid (HPO.out w5 HL5.out)
          have HZ5 := Lib.hid (show ∀ j, v4.ownBlock = some j → wr.heap.size ≤ j from fun j hj => Nat.le_trans HL3.out.size (HO4.out.lt j hj).1)
          rw [hw5]
          clear hw5 hs5
          refine hK _ _ HS5.out ?_
          clear hK
          conv => arg 8; simp [Act.put]
          refine wpAnyH_one #[true, true, true, true, true, true, true, true, true, true, true, true, false, false, false] (i := 11) rfl (by kernel_rfl) (by kernel_rfl) (fun K hK => ?_)
          refine step_append_pc rfl (.tmp 31) (.tmp 37) rfl rfl w4.heap.size rfl ⟨ky, pb, v4⟩ HPC5.out HB5.out HSL5.out (fun h0 => HNE.out v4 HZ5.out h0 _ HSL5.out) (one_pc _ _ _ _ hv4) HQN.out (by have := HL5.out.size; have := HBW.out; omega) ?_
          intro v6 w6 o6 s6 n6
          obtain ⟨a6, l6, c6, rfl⟩ : ∃ a l c, v6 = .slice a l c := by obtain ⟨a, c, e⟩ := o6.form; exact ⟨a, _, c, e⟩
          have HO6 := Lib.hid o6
          have HS6 := Lib.hid s6
          have HN6 := Lib.hid n6
          have HS6' := Lib.hid (show Stay (fun j => j = r ∨ j = t ∨ v.ownBlock = some j) wr.drew w6 from HS5.out.trans (s6.mono (fun j hj => .inr (.inr hj))))
          clear o6 s6 n6
          refine hK _ _ HS6'.out ?_
          clear hK
          conv => arg 8; simp [Act.put]
          refine wpAnyH_takeL (i := 12) (v := .pointer (some ⟨t, 0, none⟩)) #[true, true, true, true, true, true, true, true, true, true, true, true, true, false, false] rfl (by kernel_rfl) (by kernel_rfl) (by kernel_rfl) (fun _ _ _ h => h) (by kernel_rfl) HS6'.out (Or.inl ⟨by rfl, fun W hW => ?_⟩) ?_
          · go_simp
          conv => arg 8; simp [Act.put]
          refine wpAnyH_takeL (i := 13) (v := .pointer (some ⟨t, 1, none⟩)) #[true, true, true, true, true, true, true, true, true, true, true, true, true, true, false] rfl (by kernel_rfl) (by kernel_rfl) (by kernel_rfl) (fun _ _ _ h => h) (by kernel_rfl) HS6'.out (Or.inl ⟨by rfl, fun W hW => ?_⟩) ?_
          · go_simp
          conv => arg 8; simp [Act.put]
          refine wpAnyH_one #[true, true, true, true, true, true, true, true, true, true, true, true, true, true, true] (i := 14) rfl (by kernel_rfl) (by kernel_rfl) (fun K hK => ?_)
          have ht6 := HTB.out _ w6 HL5.out HS6.out
          have hc6 : w6.cell? ⟨t, 1, none⟩ = some v := by rw [cell_of_row w6 t 1 _ _ _ ht6]; rfl
          have hf6 := frozen_of_row w6 t 1 _ _ ht6
          go_simp
          refine hK _ _ (HS6'.out.trans (Stay.setCell (X := fun j => j = r ∨ j = t ∨ v.ownBlock = some j) w6 ⟨t, 1, none⟩ (.slice a6 l6 c6) (Or.inr (Or.inl rfl)))) ?_
          clear hK
          conv => arg 8; simp [Act.put]
          clear ht6 hc6 hf6
          refine wpAnyH_done (by kernel_rfl) ?_ _
          go_wp2
          go_roundw
          case rel =>
            obtain ⟨k', v', Q', e1, e2, e3, e4, e5, e6, e7, e8, e9, e10⟩ := HREL.out _ _ w6 v4 HO6.out HS6.out HN6.out HR5.out HL5.out HZ5.out
            exact ⟨k', v', Q', e1, by subst e2; go_num, e3, e4, e5, e6, e7, e8, e9, e10⟩
          case measure => simp [intOf]; omega
        refine AllReadyH.cons (o := _) rfl (fun K hK => ?_) ?_
        · go_simp
          go_wp2_with (go_at_call 124; refine (bytes_off X w3 r pb rest HR3.out HL2.out).mono ?_; rintro y w4 ⟨⟨v4, rfl, o4⟩, h4, s4⟩; have HO4 := Lib.hid o4; have HR4 := Lib.hid h4; have HS4 := Lib.hid (show Stay (fun j => j = r ∨ j = t ∨ v.ownBlock = some j) wr.drew w4 from HS3.out.trans (s4.mono (fun j hj => .inl hj))); have HL4 := Lib.hid (show Stay (fun j => j = r) wr w4 from HL3.out.trans s4); clear h4 s4 o4)
          refine Shut.out hK _ _ HS4.out (fun _ => ?_)
          clear hK
          refine wpAnyH_listedL #[true, true, true, true, false, true, true, true, true, false, false, false, false, false, false] (by kernel_rfl) ?_
          conv => arg 8; simp [Act.put]
          obtain ⟨a4, c4, hv4⟩ := HO4.out.form
          refine wpAnyH_takeL (i := 9) (v := pcV ⟨ky, pb, v4⟩) #[true, true, true, true, false, true, true, true, true, true, false, false, false, false, false] rfl (by kernel_rfl) (by kernel_rfl) (by kernel_rfl) (fun _ _ _ h => h) (by kernel_rfl) HS4.out (Or.inl ⟨by rfl, fun W hW => ?_⟩) ?_
          · unfold pcV pcC
            go_simp
          conv => arg 8; simp [Act.put]
          refine wpAnyH_ready (rs := [4, 10]) (by kernel_rfl) (by simp) ?_
          refine AllReadyH.cons (o := _) rfl (fun K hK => ?_) ?_
          · refine Me.step_load_run rfl 170 (.tmp 30) rfl ⟨t, 1, none⟩ rfl v (run_load_pcs (HLD.out w4 HL4.out)) ?_
            refine Shut.out hK _ _ HS4.out (fun _ => ?_)
            clear hK
            refine wpAnyH_listedL #[true, true, true, true, true, true, true, true, true, true, false, false, false, false, false] (by kernel_rfl) ?_
            conv => arg 8; simp [Act.put]
            refine wpAnyH_one #[true, true, true, true, true, true, true, true, true, true, true, false, false, false, false] (i := 10) rfl (by kernel_rfl) (by kernel_rfl) (fun K hK => ?_)
            refine step_one_pc rfl (.tmp 36) rfl ⟨ky, pb, v4⟩ hv4 rfl ?_
            obtain ⟨w5, hw5⟩ : ∃ w5, w4.alloc (.cells (pcC ⟨ky, pb, v4⟩).toArray 218) = w5 := ⟨_, rfl⟩
            have hs5 : Stay (fun _ => False) w4 w5 := hw5 ▸ Stay.alloc _ _
            have HB5 := Lib.hid (show ∀ j u, (pcC ⟨ky, pb, v4⟩)[j]? = some u → w5.cell? ⟨w4.heap.size, j, none⟩ = some u from fun j u hu => by rw [← hw5, cell_of_row _ w4.heap.size j _ _ _ (heap_alloc_new w4 _)]; simpa using hu)
            have HS5 := Lib.hid (HS4.out.trans (hs5.mono (fun _ x => x.elim)))
            have HL5 := Lib.hid (HL4.out.trans (hs5.mono (fun _ x => x.elim)))
            have HR5 := Lib.hid (HR4.out.stay0 hs5)
            have HSL5 := Lib.hid (HO4.out.slc.stay0 hs5)
            have HPC5 := Lib.hid (HPO.out w5 HL5.out)
            have HZ5 := Lib.hid (show ∀ j, v4.ownBlock = some j → wr.heap.size ≤ j from fun j hj => Nat.le_trans HL3.out.size (HO4.out.lt j hj).1)
            rw [hw5]
            clear hw5 hs5
            refine hK _ _ HS5.out ?_
            clear hK
            conv => arg 8; simp [Act.put]
            refine wpAnyH_one #[true, true, true, true, true, true, true, true, true, true, true, true, false, false, false] (i := 11) rfl (by kernel_rfl) (by kernel_rfl) (fun K hK => ?_)
            refine step_append_pc rfl (.tmp 31) (.tmp 37) rfl rfl w4.heap.size rfl ⟨ky, pb, v4⟩ HPC5.out HB5.out HSL5.out (fun h0 => HNE.out v4 HZ5.out h0 _ HSL5.out) (one_pc _ _ _ _ hv4) HQN.out (by have := HL5.out.size; have := HBW.out; omega) ?_
            intro v6 w6 o6 s6 n6
            obtain ⟨a6, l6, c6, rfl⟩ : ∃ a l c, v6 = .slice a l c := by obtain ⟨a, c, e⟩ := o6.form; exact ⟨a, _, c, e⟩
            have HO6 := Lib.hid o6
            have HS6 := Lib.hid s6
            have HN6 := Lib.hid n6
            have HS6' := Lib.hid (show Stay (fun j => j = r ∨ j = t ∨ v.ownBlock = some j) wr.drew w6 from HS5.out.trans (s6.mono (fun j hj => .inr (.inr hj))))
            clear o6 s6 n6
            refine hK _ _ HS6'.out ?_
            clear hK
            conv => arg 8; simp [Act.put]
            refine wpAnyH_takeL (i := 12) (v := .pointer (some ⟨t, 0, none⟩)) #[true, true, true, true, true, true, true, true, true, true, true, true, true, false, false] rfl (by kernel_rfl) (by kernel_rfl) (by kernel_rfl) (fun _ _ _ h => h) (by kernel_rfl) HS6'.out (Or.inl ⟨by rfl, fun W hW => ?_⟩) ?_
            · go_simp
            conv => arg 8; simp [Act.put]
            refine wpAnyH_takeL (i := 13) (v := .pointer (some ⟨t, 1, none⟩)) #[true, true, true, true, true, true, true, true, true, true, true, true, true, true, false] rfl (by kernel_rfl) (by kernel_rfl) (by kernel_rfl) (fun _ _ _ h => h) (by kernel_rfl) HS6'.out (Or.inl ⟨by rfl, fun W hW => ?_⟩) ?_
            · go_simp
            conv => arg 8; simp [Act.put]
            refine wpAnyH_one #[true, true, true, true, true, true, true, true, true, true, true, true, true, true, true] (i := 14) rfl (by kernel_rfl) (by kernel_rfl) (fun K hK => ?_)
            have ht6 := HTB.out _ w6 HL5.out HS6.out
            have hc6 : w6.cell? ⟨t, 1, none⟩ = some v := by rw [cell_of_row w6 t 1 _ _ _ ht6]; rfl
            have hf6 := frozen_of_row w6 t 1 _ _ ht6
            go_simp
            refine hK _ _ (HS6'.out.trans (Stay.setCell (X := fun j => j = r ∨ j = t ∨ v.ownBlock = some j) w6 ⟨t, 1, none⟩ (.slice a6 l6 c6) (Or.inr (Or.inl rfl)))) ?_
            clear hK
            conv => arg 8; simp [Act.put]
            clear ht6 hc6 hf6
            refine wpAnyH_done (by kernel_rfl) ?_ _
            go_wp2
            go_roundw
            case rel =>
              obtain ⟨k', v', Q', e1, e2, e3, e4, e5, e6, e7, e8, e9, e10⟩ := HREL.out _ _ w6 v4 HO6.out HS6.out HN6.out HR5.out HL5.out HZ5.out
              exact ⟨k', v', Q', e1, by subst e2; go_num, e3, e4, e5, e6, e7, e8, e9, e10⟩
            case measure => simp [intOf]; omega
          refine AllReadyH.cons (o := _) rfl (fun K hK => ?_) ?_
          · refine step_one_pc rfl (.tmp 36) rfl ⟨ky, pb, v4⟩ hv4 rfl ?_
            obtain ⟨w5, hw5⟩ : ∃ w5, w4.alloc (.cells (pcC ⟨ky, pb, v4⟩).toArray 218) = w5 := ⟨_, rfl⟩
            have hs5 : Stay (fun _ => False) w4 w5 := hw5 ▸ Stay.alloc _ _
            have HB5 := Lib.hid (show ∀ j u, (pcC ⟨ky, pb, v4⟩)[j]? = some u → w5.cell? ⟨w4.heap.size, j, none⟩ = some u from fun j u hu => by rw [← hw5, cell_of_row _ w4.heap.size j _ _ _ (heap_alloc_new w4 _)]; simpa using hu)
            have HS5 := Lib.hid (HS4.out.trans (hs5.mono (fun _ x => x.elim)))
            have HL5 := Lib.hid (HL4.out.trans (hs5.mono (fun _ x => x.elim)))
            have HR5 := Lib.hid (HR4.out.stay0 hs5)
            have HSL5 := Lib.hid (HO4.out.slc.stay0 hs5)
            have HPC5 := Lib.hid (HPO.out w5 HL5.out)
            have HZ5 := Lib.hid (show ∀ j, v4.ownBlock = some j → wr.heap.size ≤ j from fun j hj => Nat.le_trans HL3.out.size (HO4.out.lt j hj).1)
            rw [hw5]
            clear hw5 hs5
            refine Shut.out hK _ _ HS5.out (fun _ => ?_)
            clear hK
            refine wpAnyH_listedL #[true, true, true, true, false, true, true, true, true, true, true, false, false, false, false] (by kernel_rfl) ?_
            conv => arg 8; simp [Act.put]
            refine wpAnyH_one #[true, true, true, true, true, true, true, true, true, true, true, false, false, false, false] (i := 4) rfl (by kernel_rfl) (by kernel_rfl) (fun K hK => ?_)
            refine Me.step_load_run rfl 170 (.tmp 30) rfl ⟨t, 1, none⟩ rfl v (run_load_pcs (HLD.out w5 HL5.out)) ?_
            refine hK _ _ HS5.out ?_
            clear hK
            conv => arg 8; simp [Act.put]
            refine wpAnyH_one #[true, true, true, true, true, true, true, true, true, true, true, true, false, false, false] (i := 11) rfl (by kernel_rfl) (by kernel_rfl) (fun K hK => ?_)
            refine step_append_pc rfl (.tmp 31) (.tmp 37) rfl rfl w4.heap.size rfl ⟨ky, pb, v4⟩ HPC5.out HB5.out HSL5.out (fun h0 => HNE.out v4 HZ5.out h0 _ HSL5.out) (one_pc _ _ _ _ hv4) HQN.out (by have := HL5.out.size; have := HBW.out; omega) ?_
            intro v6 w6 o6 s6 n6
            obtain ⟨a6, l6, c6, rfl⟩ : ∃ a l c, v6 = .slice a l c := by obtain ⟨a, c, e⟩ := o6.form; exact ⟨a, _, c, e⟩
            have HO6 := Lib.hid o6
            have HS6 := Lib.hid s6
            have HN6 := Lib.hid n6
            have HS6' := Lib.hid (show Stay (fun j => j = r ∨ j = t ∨ v.ownBlock = some j) wr.drew w6 from HS5.out.trans (s6.mono (fun j hj => .inr (.inr hj))))
            clear o6 s6 n6
            refine hK _ _ HS6'.out ?_
            clear hK
            conv => arg 8; simp [Act.put]
            refine wpAnyH_takeL (i := 12) (v := .pointer (some ⟨t, 0, none⟩)) #[true, true, true, true, true, true, true, true, true, true, true, true, true, false, false] rfl (by kernel_rfl) (by kernel_rfl) (by kernel_rfl) (fun _ _ _ h => h) (by kernel_rfl) HS6'.out (Or.inl ⟨by rfl, fun W hW => ?_⟩) ?_
            · go_simp
            conv => arg 8; simp [Act.put]
            refine wpAnyH_takeL (i := 13) (v := .pointer (some ⟨t, 1, none⟩)) #[true, true, true, true, true, true, true, true, true, true, true, true, true, true, false] rfl (by kernel_rfl) (by kernel_rfl) (by kernel_rfl) (fun _ _ _ h => h) (by kernel_rfl) HS6'.out (Or.inl ⟨by rfl, fun W hW => ?_⟩) ?_
            · go_simp
            conv => arg 8; simp [Act.put]
            refine wpAnyH_one #[true, true, true, true, true, true, true, true, true, true, true, true, true, true, true] (i := 14) rfl (by kernel_rfl) (by kernel_rfl) (fun K hK => ?_)
            have ht6 := HTB.out _ w6 HL5.out HS6.out
            have hc6 : w6.cell? ⟨t, 1, none⟩ = some v := by rw [cell_of_row w6 t 1 _ _ _ ht6]; rfl
            have hf6 := frozen_of_row w6 t 1 _ _ ht6
            go_simp
            refine hK _ _ (HS6'.out.trans (Stay.setCell (X := fun j => j = r ∨ j = t ∨ v.ownBlock = some j) w6 ⟨t, 1, none⟩ (.slice a6 l6 c6) (Or.inr (Or.inl rfl)))) ?_
            clear hK
            conv => arg 8; simp [Act.put]
            clear ht6 hc6 hf6
            refine wpAnyH_done (by kernel_rfl) ?_ _
            go_wp2
            go_roundw
            case rel =>
              obtain ⟨k', v', Q', e1, e2, e3, e4, e5, e6, e7, e8, e9, e10⟩ := HREL.out _ _ w6 v4 HO6.out HS6.out HN6.out HR5.out HL5.out HZ5.out
              exact ⟨k', v', Q', e1, by subst e2; go_num, e3, e4, e5, e6, e7, e8, e9, e10⟩
            case measure => simp [intOf]; omega
          exact AllReadyH.nil
        exact AllReadyH.nil
      exact AllReadyH.nil
    · obtain rfl : k = N := by omega
      obtain ⟨kl, hkl⟩ : ∃ kl, kl = lastK L := ⟨_, rfl⟩
      obtain ⟨en, hen⟩ : ∃ en, en = Bo.encB 3 (filtB L q) := ⟨_, rfl⟩
      have hform : hdN L p k (k - k) ++ tailT L q = bytesB kl ++ (bytesB en ++ []) := by
        rw [Nat.sub_self, hkl, hen]
        unfold tailT
        simp [hdN]
      have hla := len_left_all HG.out (k := k) (by rw [← HNN.out]; omega)
      rw [← HNN.out, hform] at hla
      have hrd' := hrd.out
      rw [hform] at hrd'
      have HRD := Lib.hid hrd'
      have HL1 := Lib.hid hla
      have HL2 := Lib.hid (show (bytesB en ++ []).length ≤ 10000000 by have := HL1.out; rw [List.length_append] at this; omega)
      have HL3 := Lib.hid (show en.length ≤ 10000000 by have := HL2.out; have := (len_bytesB en).1; rw [List.length_append] at *; omega)
      have HKL := Lib.hid hkl
      have hfl := filtB_len L q
      have hqn := HG.out.qn
      have hg1 : 1 ≤ q * L.length := Nat.mul_pos HG.out.q1 HG.out.n1
      have HEG := Lib.hid (show Bo.goodB en = true ∧ Bo.decBits en = filtB L q ∧ (Bo.decK en).1 = 3 from by
        rw [hen]
        exact Bo.enc_good (by omega) (by omega) (by decide) (by decide))
      have HTW4 := Lib.hid hzr
      clear hform hrd' hla hkl hen hrd hfl hqn hg1
      go_wp2_with fail
      refine (text_off X wr r kl _ HRD.out (Nat.le_trans HL1.out (by decide))).mono ?_
      rintro y w6 ⟨rfl, hr6, hs6⟩
      have HR6 := Lib.hid hr6
      have ht6 := (hs6.block t (by omega) (fun h => hrt h.symm)).trans htb.out
      have HT6 := Lib.hid ht6
      have hc6 : w6.cell? ⟨t, 2, none⟩ = some (.string ⟨#[]⟩) := by rw [cell_of_row w6 t 2 _ _ _ ht6]; rfl
      have hf6 := frozen_of_row w6 t 2 _ _ ht6
      have HP6 := Lib.hid (show PcOwn (t + 1) w6 v Q from hpo.out.stay hs6 (fun j hj h => by have := (hpo.out.lt j hj).1; have := (HX1.out r hrX).2; have := HTW.out; omega) (fun z hz h0 j hj h => by have := hqb.out z hz h0 j hj; have := (HX1.out r hrX).2; have := HTW.out; omega))
      have HS6 := Lib.hid (show Stay (fun j => j = r ∨ j = t) wr w6 from hs6.mono (fun j hj => .inl hj))
      clear hr6 hs6 ht6
      go_wp2_with fail
      have hset : Stay (fun j => j = t) w6 (w6.setCell ⟨t, 2, none⟩ (.string ⟨kl.toArray⟩)) := Stay.setCell _ _ _ rfl
      have ht7 := heap_setCell_same w6 t 2 _ _ (.string ⟨kl.toArray⟩) HT6.out
      have HR7 := Lib.hid (HR6.out.stay hset (fun j hj _ h => by have := (HX1.out j hj).2; have := HTW.out; omega))
      have HP7 := Lib.hid (HP6.out.stay hset (fun j hj h => by have := (HP6.out.lt j hj).1; omega) (fun z hz h0 j hj h => by have := hqb.out z hz h0 j hj; omega))
      have HS7 := Lib.hid (HS6.out.trans (hset.mono (fun j hj => .inr hj)))
      obtain ⟨w7, hw7⟩ : ∃ w7, w6.setCell ⟨t, 2, none⟩ (.string ⟨kl.toArray⟩) = w7 := ⟨_, rfl⟩
      rw [hw7] at ht7 HR7 HP7 HS7 ⊢
      have HT7 := Lib.hid (show w7.heap[t]? = some (.cells (tbC n v kl (.pointer none)) 172 (0, 0)) from ht7)
      clear hset hw7 ht7 hc6 hf6 HR6 HP6 HT6
      refine (bytes_off X w7 r en [] HR7.out (Nat.le_trans HL2.out (by decide))).mono ?_
      rintro y w8 ⟨⟨v8, rfl, ho8⟩, hr8, hs8⟩
      have HR8 := Lib.hid hr8
      have HT8 := Lib.hid ((hs8.block t (by have := (Array.getElem?_eq_some_iff.1 HT7.out).1; omega) (fun h => hrt h.symm)).trans HT7.out)
      have HP8 := Lib.hid (show PcOwn (t + 1) w8 v Q from HP7.out.stay hs8 (fun j hj h => by have := (HP7.out.lt j hj).1; have := (HX1.out r hrX).2; have := HTW.out; omega) (fun z hz h0 j hj h => by have := hqb.out z hz h0 j hj; have := (HX1.out r hrX).2; have := HTW.out; omega))
      have HS8 := Lib.hid (HS7.out.trans (hs8.mono (fun j hj => .inl hj)))
      have HSL8 := Lib.hid ho8.slc
      clear hr8 hs8 ho8 HR7 HT7 HP7
      go_wp2_with fail
      refine (Bo.decode_any w8 v8 en HSL8.out (Nat.le_trans HL3.out (by decide))).mono ?_
      rintro y w9 ⟨hret, hs9⟩
      unfold Bo.DecRet at hret
      rw [if_pos HEG.out.1, HEG.out.2.1, HEG.out.2.2] at hret
      obtain ⟨pf, gf, rfl, hpf, hgf, hf9⟩ := hret
      have HF9 := Lib.hid hf9
      have HR9 := Lib.hid (HR8.out.stay0 hs9)
      have ht9 := (hs9.block t (by have := (Array.getElem?_eq_some_iff.1 HT8.out).1; omega) (fun x => x)).trans HT8.out
      have HP9 := Lib.hid (HP8.out.stay0 hs9)
      have HS9 := Lib.hid (HS8.out.trans (hs9.mono (fun _ x => x.elim)))
      have HT9 := Lib.hid ht9
      have hc9 : w9.cell? ⟨t, 3, none⟩ = some (.pointer none) := by rw [cell_of_row w9 t 3 _ _ _ ht9]; rfl
      have hf9' := frozen_of_row w9 t 3 _ _ ht9
      have hz8 := (Array.getElem?_eq_some_iff.1 HT8.out).1
      clear hf9 hs9 ht9 HR8 HT8 HP8
      go_wp2_with fail
      have hset : Stay (fun j => j = t) w9 (w9.setCell ⟨t, 3, none⟩ (.pointer (some ⟨pf, 0, none⟩))) := Stay.setCell _ _ _ rfl
      have ht10 := heap_setCell_same w9 t 3 _ _ (.pointer (some ⟨pf, 0, none⟩)) HT9.out
      have HR10 := Lib.hid (HR9.out.stay hset (fun j hj _ h => by have := (HX1.out j hj).2; have := HTW.out; omega))
      have HP10 := Lib.hid (HP9.out.stay hset (fun j hj h => by have := (HP9.out.lt j hj).1; omega) (fun z hz h0 j hj h => by have := hqb.out z hz h0 j hj; omega))
      have HS10 := Lib.hid (HS9.out.trans (hset.mono (fun j hj => .inr hj)))
      have HF10 := Lib.hid (HF9.out.stay hset (fun h => by omega) (fun h => by omega))
      obtain ⟨w10, hw10⟩ : ∃ w10, w9.setCell ⟨t, 3, none⟩ (.pointer (some ⟨pf, 0, none⟩)) = w10 := ⟨_, rfl⟩
      rw [hw10] at ht10 HR10 HP10 HS10 HF10 ⊢
      have HTA := Lib.hid (show ∀ W, Stay (fun k => k < w.heap.size) w10 W → TAt W t L p q from fun W hW => by
        have hwt : w.heap.size ≤ t := by have := HTW.out; omega
        have hz10 : t < w10.heap.size := (Array.getElem?_eq_some_iff.1 ht10).1
        have hPW := HP10.out.stay hW (fun j hj h => by have := (HP10.out.lt j hj).1; omega) (fun z hz h0 j hj h => by have := hqb.out z hz h0 j hj; omega)
        exact ⟨⟨v, pf, gf, by
          have : W.heap[t]? = some (.cells (tbC n v kl (.pointer (some ⟨pf, 0, none⟩))) 172 (0, 0)) := (hW.block t hz10 (fun h => by omega)).trans ht10
          rw [this, HKL.out, HLL.out]
          rfl, hPW.at (by rw [hql.out, HNN.out]) (by rw [hql.out]; omega) hqs.out, HF10.out.stay hW (fun h => by omega) (fun h => by omega)⟩, HG.out.p1, HG.out.q1, HG.out.n1, by have := HG.out.n2; omega, HG.out.srt, HG.out.nrm, by have := HG.out.sz; omega⟩)
      have HFIN := Lib.hid (show Stay (fun _ => False) w w10 from stay_seal (X := fun j => w.heap.size ≤ j) ((HT.out.mono (fun _ x => x.elim)).trans (HS10.out.mono (fun j hj => by have h1 := (HX1.out r hrX).1; have h2 := HTW.out; rcases hj with hj | hj <;> omega))) (fun j hj => hj))
      clear hset hw10 ht10 hc9 hf9' HR9 HP9 HT9 HF9 HF10 HP10 HS10 HS9 HS8 HS7
      refine (done_off X w10 r HR10.out).mono ?_
      rintro y w11 ⟨rfl, rfl⟩
      go_wp2_with fail
      refine (formed_any w10 t p q L (HTA.out w10 (Stay.refl _ _))).mono ?_
      rintro y w12 ⟨rfl, hs12⟩
      have HTA12 := Lib.hid (show ∀ W, Stay (fun k => k < w.heap.size) w12 W → TAt W t L p q from fun W hW => HTA.out W ((hs12.mono (fun _ x => x.elim)).trans hW))
      have HFIN12 := Lib.hid (HFIN.out.trans hs12)
      clear hs12
      go_wp2
      go_ret2
      exact ⟨⟨t, rfl, by have := HTW.out; omega, HTA12.out⟩, HFIN12.out⟩
theorem open_any (w : World) (x : Value) (L : List En) (p q : Nat) (hx : Slc w x (tabB L p q)) (hg : Good L p q) :
    Calls Tryz.prog 103 #[x] w fun e w' => (∃ t, e = .returned (.tuple #[.pointer (some ⟨t, 0, none⟩), .nilIface]) ∧ w.heap.size ≤ t ∧ TAt w' t L p q) ∧ Stay (fun _ => False) w w' :=
  (open_kept w x L p q hx hg).mono fun _ w' ⟨⟨t, h1, h2, h3⟩, h4⟩ => ⟨⟨t, h1, h2, h3 w' (Stay.refl _ _)⟩, h4⟩
end Go.Proofs.YtljlfdhjolcnaaaGreat.Tb

/-
  table: Build where it succeeds; the filter; where a key would be; a key's entry; all entries.
-/
namespace Go.Proofs.YtljlfdhjolcnaaaGreat.Tb
open Go.RowKit
open Pk (stay_seal)
open Me (En EnS EnO Box enC enV norm ltB Sorted getL posN hasB sizeL)
open Pk (spellB bytesB Slc Owns)
open Bo (FAt)
set_option maxRecDepth 100000
set_option linter.unusedVariables false

set_option maxHeartbeats 4000000 in
theorem build_ok (w : World) (x : Value) (L : List En) (p q : Nat) (hx : EnS w x L) (hs : Sorted L) (hp : 1 ≤ p) (hp2 : p ≤ 1000) (hq : 1 ≤ q) (hq2 : q ≤ 64) (hn : 1 ≤ L.length) (hl : L.length ≤ 1000) (hz : sizeL L ≤ 1000000000) (ht : (tabB L p q).length ≤ 1048576) :
    Calls Tryz.prog 68 #[x, .int .i64 (p : Int), .int .i64 (q : Int)] w fun e w' => (∃ v, e = .returned (.tuple #[v, .nilIface]) ∧ Owns w.heap.size w' v (tabB L p q)) ∧ Stay (fun _ => False) w w' := by
  have HX := Lib.hid hx
  obtain ⟨a0, c, rfl⟩ := hx.form
  have hsd : decide (Sorted L) = true := decide_eq_true hs
  have HA := Lib.hid (asc_any w _ L hx (by omega))
  rw [hsd] at HA
  have hqn : q * L.length ≤ 64 * 1000 := Nat.mul_le_mul hq2 hl
  have HFO := Lib.hid (show ∀ W, Stay (fun _ => False) w W → Calls Tryz.prog 101 #[.slice a0 L.length c, .int .i64 (q : Int)] W fun e w' => ∃ pf gf, e = .returned (.tuple #[.pointer (some ⟨pf, 0, none⟩), .nilIface]) ∧ FAt w' pf gf 3 (filtB L q) ∧ Stay (fun _ => False) W w' from fun W hW =>
    filterOf_any W _ L q (HX.out.stay0 hW) (fit_of (by omega)) hq hn (by omega) (by omega) (by omega))
  have HLY := Lib.hid (show ∀ W pf gf, Stay (fun _ => False) w W → FAt W pf gf 3 (filtB L q) → Calls Tryz.prog 102 #[.slice a0 L.length c, .int .i64 (p : Int), .pointer (some ⟨pf, 0, none⟩)] W fun e w' => ∃ v, e = .returned v ∧ Owns W.heap.size w' v (tabB L p q) ∧ Stay (fun _ => False) W w' from fun W pf gf hW hf =>
    lay_any W _ L p pf gf q (HX.out.stay0 hW) hf hp (by omega) hn hl hz (by omega))
  obtain ⟨T, hT⟩ : ∃ T, T = tabB L p q := ⟨_, rfl⟩
  rw [← hT] at HLY ht ⊢
  generalize L.length = n at *
  have h1 : (1 : Int) ≤ p := by omega
  have h2 : (p : Int) ≤ 1000 := by omega
  have h3 : (1 : Int) ≤ q := by omega
  have h4 : (q : Int) ≤ 64 := by omega
  have h5 : (n : Int) ≤ 1000 := by omega
  have h6 : (1 : Int) ≤ n := by omega
  have h7 : (T.length : Int) ≤ 1048576 := by omega
  have hn0 : ((n : Int) == 0) = false := beq_eq_false_iff_ne.2 (by omega)
  have hd1 : decide ((p : Int) < 1) = false := decide_eq_false (by omega)
  have hd2 : decide ((1000 : Int) < p) = false := decide_eq_false (by omega)
  have hd3 : decide ((q : Int) < 1) = false := decide_eq_false (by omega)
  have hd4 : decide ((64 : Int) < q) = false := decide_eq_false (by omega)
  clear hx hs hsd hT hz hqn hp hp2 hq hq2 hn hl ht
  go_enter Tryz.func68, Tryz.ntmps68
  go_wp2_with fail
  refine HA.out.mono ?_
  rintro e w1 ⟨rfl, hs1⟩
  have HS1 := Lib.hid hs1
  clear hs1
  go_wp2_with fail
  refine (HFO.out w1 HS1.out).mono ?_
  rintro e w2 ⟨pf, gf, rfl, hf2, hs2⟩
  have HS2 := Lib.hid (HS1.out.trans hs2)
  have HF2 := Lib.hid hf2
  clear hs2 hf2
  go_wp2_with fail
  refine (HLY.out w2 pf gf HS2.out HF2.out).mono ?_
  rintro e w3 ⟨v3, rfl, ho3, hs3⟩
  have HO3 := Lib.hid ho3
  have HS3 := Lib.hid (HS2.out.trans hs3)
  have hz2 := HS2.out.size
  obtain ⟨a3, c3, rfl⟩ := ho3.form
  clear ho3 hs3
  go_wp2
  go_ret2
  exact ⟨⟨_, rfl, HO3.out.base (fun j hj => Nat.le_trans hz2 (HO3.out.lt j hj).1)⟩, HS3.out⟩

/-- In which part a key would be; -1: in none. -/
def findN (L : List En) (p q : Nat) (k : List UInt8) (j : Nat) : Int := if mayT L q k = true ∧ ltB (lastK L) k = false then (j : Int) - 1 else -1
theorem from_isJ {L : List En} {p j : Nat} {k : List UInt8} (h : From (cN L.length p) (fun i => ltB k (keyAt L (i * p))) j) : IsJ L p k j := ⟨h.le, h.lo, fun hj => h.hi j (Nat.le_refl _) hj⟩
theorem find_mono {L : List En} {p : Nat} {k : List UInt8} (hp : 1 ≤ p) (hs : Sorted L) (i j : Nat) (hij : i ≤ j) (hj : j < cN L.length p) (h : ltB k (keyAt L (i * p)) = true) : ltB k (keyAt L (j * p)) = true := by
  have h1 := (cN_lt (n := L.length) hp).1 hj
  exact Me.lt_le h (key_le hs (Nat.mul_le_mul_right p hij) h1)
theorem isJ_ex (L : List En) (p : Nat) (k : List UInt8) (hp : 1 ≤ p) (hs : Sorted L) : ∃ j, IsJ L p k j := by
  have key : ∀ m, m ≤ cN L.length p → (∃ j, j ≤ m ∧ (∀ i, i < j → ltB k (keyAt L (i * p)) = false) ∧ (j < m → ltB k (keyAt L (j * p)) = true)) := by
    intro m
    induction m with
    | zero => exact fun _ => ⟨0, Nat.le_refl _, fun i hi => by omega, fun h => by omega⟩
    | succ m ih =>
      intro hm
      obtain ⟨j, h1, h2, h3⟩ := ih (by omega)
      by_cases hj : j < m
      · exact ⟨j, by omega, h2, fun _ => h3 hj⟩
      · obtain rfl : j = m := by omega
        cases hb : ltB k (keyAt L (j * p)) with
        | true => exact ⟨j, by omega, h2, fun _ => hb⟩
        | false => exact ⟨j + 1, Nat.le_refl _, fun i hi => by
            by_cases h : i = j
            · subst h; exact hb
            · exact h2 i (by omega), fun h => by omega⟩
  obtain ⟨j, h1, h2, h3⟩ := key _ (Nat.le_refl _)
  exact ⟨j, h1, h2, h3⟩
end Go.Proofs.YtljlfdhjolcnaaaGreat.Tb

/-
  table: where a key would be.
-/
namespace Go.Proofs.YtljlfdhjolcnaaaGreat.Tb
open Go.RowKit
open Pk (stay_seal)
open Me (En EnS EnO Box enC enV norm ltB Sorted getL posN hasB sizeL)
open Bo (FAt)
set_option maxRecDepth 100000
set_option linter.unusedVariables false

set_option maxHeartbeats 4000000 in
theorem find_any (w : World) (t p q : Nat) (L : List En) (k : List UInt8) (h : TAt w t L p q) (hk : k.length ≤ 140737488351232) :
    Calls Tryz.prog 153 #[.pointer (some ⟨t, 0, none⟩), .string ⟨k.toArray⟩] w fun e w' => (∃ j, IsJ L p k j ∧ e = .returned (.int .i64 (findN L p q k j))) ∧ Stay (fun _ => False) w w' := by
  obtain ⟨j0, hj0⟩ := isJ_ex L p k h.p1 h.srt
  have hb1 : (w.alloc (.cells #[.pointer (some ⟨t, 0, none⟩)] 108)).heap.size = w.heap.size + 1 := by simp
  obtain ⟨w1, hw1⟩ : ∃ w1, w.alloc (.cells #[.pointer (some ⟨t, 0, none⟩)] 108) = w1 := ⟨_, rfl⟩
  rw [hw1] at hb1
  obtain ⟨w2, hw2⟩ : ∃ w2, w1.alloc (.cells #[.string ⟨k.toArray⟩] 9) = w2 := ⟨_, rfl⟩
  have W1 := Lib.hid hw1
  have W2 := Lib.hid hw2
  have hs2 : Stay (fun _ => False) w w2 := by
    rw [← hw2, ← hw1]
    exact (Stay.alloc _ _).trans (Stay.alloc _ _)
  obtain ⟨b, hb⟩ : ∃ b, b = w.heap.size := ⟨_, rfl⟩
  have hd1 : w2.cell? ⟨b, 0, none⟩ = some (.pointer (some ⟨t, 0, none⟩)) := by
    have h1 : w1.cell? ⟨b, 0, none⟩ = some (.pointer (some ⟨t, 0, none⟩)) := by
      rw [hb, ← hw1, cell_of_row _ w.heap.size 0 _ _ _ (heap_alloc_new w _)]
      rfl
    rw [← hw2]
    exact (Stay.alloc (X := fun _ => False) w1 _).cell h1 (fun x => x)
  have hd2 : w2.cell? ⟨b + 1, 0, none⟩ = some (.string ⟨k.toArray⟩) := by
    rw [← hw2, hb, ← hb1, cell_of_row _ w1.heap.size 0 _ _ _ (heap_alloc_new w1 _)]
    rfl
  have HB := Lib.hid hb
  have HB1 := Lib.hid (show w1.heap.size = b + 1 by omega)
  have hT2 := h.stay0 hs2
  have HT2 := Lib.hid hT2
  have HS2 := Lib.hid hs2
  obtain ⟨v, pf, gf, hbt, hpc, hf⟩ := hT2.ex
  have hc3 : w2.cell? ⟨t, 3, none⟩ = some (.pointer (some ⟨pf, 0, none⟩)) := by rw [cell_of_row w2 t 3 _ _ _ hbt]; rfl
  have hc2 := hT2.c2
  obtain ⟨g, c, hcb, hc1, _⟩ := hT2.parts
  obtain ⟨kl, hkl⟩ : ∃ kl, kl = lastK L := ⟨_, rfl⟩
  rw [← hkl] at hc2
  have HKL := Lib.hid hkl
  obtain ⟨D, hDd⟩ : ∃ D : World → Prop, D = Stay (fun _ => False) w2 := ⟨_, rfl⟩
  have HD := Lib.hid (show ∀ W, D W → Stay (fun _ => False) w2 W by intro W h; rw [hDd] at h; exact h)
  have HDm := Lib.hid (show ∀ W, Stay (fun _ => False) w2 W → D W by intro W h; rw [hDd]; exact h)
  clear hDd
  have HN0 := Lib.hid (HDm.out _ (Stay.drew (w := w2)))
  have k1 := fun i : InC D => (HD.out _ i.h).cell hd1 (fun x => x)
  have k2 := fun i : InC D => (HD.out _ i.h).cell hd2 (fun x => x)
  have k3 := fun i : InC D => (HD.out _ i.h).cell hc3 (fun x => x)
  have k4 := fun i : InC D => (HD.out _ i.h).cell hc2 (fun x => x)
  have HD1 := Lib.hid hd1
  have HD2 := Lib.hid hd2
  have HC1 := Lib.hid hc1
  obtain ⟨my, hmy⟩ : ∃ my, my = mayT L q k := ⟨_, rfl⟩
  have H1 := Lib.hid (show ∀ W, D W → Calls Tryz.prog 167 #[.pointer (some ⟨pf, 0, none⟩), .string ⟨k.toArray⟩] W fun e w' => e = .returned (.bool my) ∧ D w' from fun W hW => by
    have h2 := Bo.may_any W pf gf 3 (filtB L q) k (hf.stay0 (HD.out _ hW)) (by omega)
    rw [filtB_len] at h2
    rw [hmy]
    exact h2.mono fun e w' ⟨h3, h4⟩ => ⟨h3, HDm.out _ ((HD.out _ hW).trans h4)⟩)
  have HMY := Lib.hid hmy
  haveI : Nonempty (InC D) := ⟨⟨_, HN0.out⟩⟩
  have HSE := Lib.hid (show ∀ W, Stay (fun _ => False) w2 W → Calls Tryz.prog 113 #[.int .i64 (cN L.length p : Nat), .func (.func 168) #[] #[.pointer (some ⟨b, 0, none⟩), .pointer (some ⟨b + 1, 0, none⟩)]] W fun e w' => (∃ j : Nat, e = .returned (.int .i64 (j : Int)) ∧ IsJ L p k j) ∧ Stay (fun _ => False) W w' from fun W hW => by
    refine (search_find (cN L.length p) (fun i => ltB k (keyAt L (i * p))) _ _ W hcb (find_mono h.p1 h.srt) (fun W' hW' i hi => ?_)).mono fun e w' ⟨⟨j, h1, h2⟩, h3⟩ => ⟨⟨j, h1, from_isJ h2⟩, h3⟩
    exact find1_any W' b (b + 1) t p q L k i ((hW.trans hW').cell HD1.out (fun x => x)) ((hW.trans hW').cell HD2.out (fun x => x)) (HT2.out.stay0 (hW.trans hW')) hi)
  have HJ0 := Lib.hid hj0
  have HJL := Lib.hid (show ∀ j, IsJ L p k j → j ≤ cN L.length p from fun j h => h.le)
  generalize cN L.length p = n at *
  have hnm : (n : Int) ≤ 1000000 := by omega
  clear hw1 hw2 hs2 hb hd1 hd2 hT2 hbt hpc hf hc3 hc2 hc1 hkl hmy hj0 h hb1
  go_enter Tryz.func153, Tryz.ntmps153
  go_wp2
  rw [W1.out, W2.out, ← HB.out]
  cases my with
  | false =>
    refine wp_region_class D HN0.out (by kernel_rfl) (by kernel_rfl) ?_
    repeat (go_big_quiet_step ((first
      | with_reducible exact calls_class H1.out)))
    refine wpQuiet_nil ?_
    rintro W ⟨iw, rfl⟩
    have hst := HD.out _ iw.h
    clear k1 k2 k3 k4
    generalize iw.w = w9 at *
    have HS9 := Lib.hid (HS2.out.trans hst)
    clear hst
    go_wp2
    go_ret
    exact ⟨⟨j0, HJ0.out, by rw [show findN L p q k j0 = -1 from if_neg (fun h => by rw [← HMY.out] at h; cases h.1)]; rfl⟩, HS9.out⟩
  | true =>
    refine wp_region_class D HN0.out (by kernel_rfl) (by kernel_rfl) ?_
    repeat (go_big_quiet_step ((first
      | with_reducible exact calls_class H1.out)))
    refine wpQuiet_nil ?_
    rintro W ⟨iw, rfl⟩
    have hst := HD.out _ iw.h
    clear k1 k2 k3 k4
    generalize iw.w = w9 at *
    have HS9 := Lib.hid (HS2.out.trans hst)
    have hc1 := hst.cell HC1.out (fun x => x)
    have hd1 := hst.cell HD1.out (fun x => x)
    have HSE9 := Lib.hid (HSE.out w9 hst)
    clear hst
    rw [gtr_is]
    cases hlk : ltB kl k with
    | true =>
      go_wp2
      go_ret
      exact ⟨⟨j0, HJ0.out, by rw [show findN L p q k j0 = -1 from if_neg (fun h => by rw [← HKL.out, hlk] at h; cases h.2)]; rfl⟩, HS9.out⟩
    | false =>
      go_wp2_with fail
      refine HSE9.out.mono ?_
      rintro e w10 ⟨⟨j, rfl, hj⟩, hs10⟩
      have HJ := Lib.hid hj
      have HS10 := Lib.hid (HS9.out.trans hs10)
      have hjn := HJL.out j hj
      have HFN := Lib.hid (show findN L p q k j = (j : Int) - 1 from if_pos ⟨HMY.out.symm, by rw [← HKL.out, hlk]⟩)
      clear hj hs10 hlk
      go_wp2
      go_ret
      exact ⟨⟨j, HJ.out, by rw [HFN.out]; rfl⟩, HS10.out⟩
end Go.Proofs.YtljlfdhjolcnaaaGreat.Tb

/-
  table: a key's entry; all entries.
-/
namespace Go.Proofs.YtljlfdhjolcnaaaGreat.Tb
open Go.RowKit
open Pk (stay_seal)
open Me (En EnS EnO Box enC enV norm ltB Sorted getL posN hasB sizeL entOf)
set_option maxRecDepth 100000
set_option linter.unusedVariables false

theorem from_pos {ch : List En} {k : List UInt8} {i : Nat} (h : From ch.length (fun i => !ltB (keyAt ch i) k) i) : posN ch k = i := by
  refine Me.posN_is k ch i h.le (fun t ht e he => ?_) (fun e he => ?_)
  · have := h.lo t ht
    rw [keyAt_of he] at this
    simpa using this
  · have := h.hi i (Nat.le_refl _) (List.getElem?_eq_some_iff.1 he).1
    rw [keyAt_of he] at this
    simpa using this
theorem from_mono {ch : List En} {k : List UInt8} (hs : Sorted ch) (i j : Nat) (hij : i ≤ j) (hj : j < ch.length) (h : (!ltB (keyAt ch i) k) = true) : (!ltB (keyAt ch j) k) = true := by
  have h1 : ltB (keyAt ch i) k = false := by simpa using h
  have h2 := key_le hs hij hj
  cases h3 : ltB (keyAt ch j) k with
  | false => rfl
  | true => rw [Me.le_lt h2 h3] at h1; cases h1
/-- What Get tells. -/
theorem get_is {L : List En} {p q j : Nat} {k : List UInt8} (hs : Sorted L) (hp : 1 ≤ p) (hq : 1 ≤ q) (h : IsJ L p k j) :
    (findN L p q k j < 0 → getL L k = none) ∧ (0 ≤ findN L p q k j → ∃ m : Nat, findN L p q k j = (m : Int) ∧ m < cN L.length p ∧ getL L k = getL (chunk L p m) k) := by
  unfold findN
  by_cases hc : mayT L q k = true ∧ ltB (lastK L) k = false
  · rw [if_pos hc]
    cases j with
    | zero => exact ⟨fun _ => get_before hp hs h, fun h0 => by omega⟩
    | succ m => exact ⟨fun h0 => by omega, fun _ => ⟨m, by omega, by have := h.le; omega, get_part hp hs h⟩⟩
  · rw [if_neg hc]
    refine ⟨fun _ => ?_, fun h0 => by omega⟩
    cases hm : mayT L q k with
    | false => exact get_not hq hm
    | true =>
      cases hl : ltB (lastK L) k with
      | true => exact get_behind hs hl
      | false => exact absurd ⟨hm, hl⟩ hc

set_option maxHeartbeats 4000000 in
theorem get_any (w : World) (t p q : Nat) (L : List En) (k : List UInt8) (h : TAt w t L p q) (hk : k.length ≤ 140737488351232) :
    Calls Tryz.prog 127 #[.pointer (some ⟨t, 0, none⟩), .string ⟨k.toArray⟩] w fun e w' => e = .returned (.tuple #[enV (entOf (getL L k)), .bool (getL L k).isSome, .nilIface]) ∧ Stay (fun _ => False) w w' := by
  obtain ⟨w1, hw1⟩ : ∃ w1, w.alloc (.cells #[.string ⟨k.toArray⟩] 9) = w1 := ⟨_, rfl⟩
  have hz1 : w1.heap.size = w.heap.size + 1 := by rw [← hw1]; simp
  have hbx := Box.new w1 ⟨[], [], false⟩
  obtain ⟨w2, hw2⟩ : ∃ w2, w1.alloc (.cells (enC ⟨[], [], false⟩).toArray 42) = w2 := ⟨_, rfl⟩
  rw [hw2] at hbx
  have hs2 : Stay (fun _ => False) w w2 := by
    rw [← hw2, ← hw1]
    exact (Stay.alloc _ _).trans (Stay.alloc _ _)
  obtain ⟨b, hb⟩ : ∃ b, b = w.heap.size := ⟨_, rfl⟩
  have hd1 : w2.cell? ⟨b, 0, none⟩ = some (.string ⟨k.toArray⟩) := by
    have h1 : w1.cell? ⟨b, 0, none⟩ = some (.string ⟨k.toArray⟩) := by
      rw [hb, ← hw1, cell_of_row _ w.heap.size 0 _ _ _ (heap_alloc_new w _)]
      rfl
    rw [← hw2]
    exact (Stay.alloc (X := fun _ => False) w1 _).cell h1 (fun x => x)
  rw [hz1, ← hb] at hbx
  have HBX := Lib.hid hbx
  have HD1 := Lib.hid hd1
  have HT2 := Lib.hid (h.stay0 hs2)
  have HS2 := Lib.hid hs2
  have W1 := Lib.hid hw1
  have W2 := Lib.hid hw2
  have HB := Lib.hid hb
  have HZ := Lib.hid hz1
  have HGI := Lib.hid (fun j => get_is (k := k) (j := j) h.srt h.p1 h.q1)
  have HSR := Lib.hid h.srt
  have HN2 := Lib.hid h.n2
  have HKK := Lib.hid hk
  clear hw1 hw2 hbx hd1 hs2 hb hz1 h hk
  go_enter Tryz.func127, Tryz.ntmps127
  go_wp2_with (first
    | (with_reducible refine Me.alloc_en rfl rfl ?_; rw [W1.out, W2.out, HZ.out, ← HB.out]; have hd1 := HD1.out))
  refine (find_any w2 t p q L k HT2.out HKK.out).mono ?_
  rintro e w3 ⟨⟨j, hj, rfl⟩, hs3⟩
  have HG := Lib.hid (HGI.out j hj)
  have HS3 := Lib.hid (HS2.out.trans hs3)
  have HB3 := Lib.hid (HBX.out.stay0 hs3)
  have HT3 := Lib.hid (HT2.out.stay0 hs3)
  have HD3 := Lib.hid (hs3.cell HD1.out (fun x => x))
  obtain ⟨fn, hfn⟩ : ∃ fn, fn = findN L p q k j := ⟨_, rfl⟩
  rw [← hfn] at HG ⊢
  clear hj hs3 hd1 HBX HD1 HT2 HS2 HGI hfn W1 W2
  by_cases hneg : fn < 0
  · have HGN := Lib.hid (HG.out.1 hneg)
    go_wp2_with (first
      | (refine Box.store HB3.out rfl (.tmp 4) (.tmp 20) rfl rfl ⟨[], [], false⟩ rfl ?_
         intro w4 hb4 hs4
         have H4 := Lib.hid hb4
         have HS4 := Lib.hid (stay_seal (HS3.out.mono (fun _ x => x.elim) |>.trans hs4) (fun k hk => by have hk' : k = b + 1 := hk; have := HB.out; omega))
         clear hb4 hs4))
    have hld := H4.out.run_load
    refine bodyPost_ret (v := .tuple #[enV ⟨[], [], false⟩, .bool false, .nilIface]) (by simp [results, Tryz.results127, asAddr, hld]) rfl ⟨by rw [HGN.out]; rfl, HS4.out⟩
  · obtain ⟨m, hfm, hmn, hgm⟩ := HG.out.2 (by omega)
    rw [hfm]
    have HMN := Lib.hid hmn
    have HGM := Lib.hid hgm
    have hm1 : (m : Int) ≤ 1000000 := by
      have := cN_le (n := L.length) HT3.out.p1
      have := HN2.out
      omega
    clear hneg hfm hmn hgm HG
    go_wp2_with fail
    refine (part_any w3 t p q m L HT3.out HMN.out).mono ?_
    rintro e w4 ⟨⟨v4, rfl, ho4⟩, hs4⟩
    obtain ⟨ch, hch⟩ : ∃ ch, ch = chunk L p m := ⟨_, rfl⟩
    rw [← hch] at ho4
    have HGC := Lib.hid (show getL L k = getL ch k by rw [hch]; exact HGM.out)
    have hsc : Sorted ch := hch ▸ sorted_chunk HSR.out p m
    have hcl : ch.length ≤ 1000000 := by
      have h1 := length_chunk L p m
      rw [← hch] at h1
      have := HN2.out
      omega
    have HGS := Lib.hid (Me.getL_sorted hsc k)
    have HFM := Lib.hid (from_mono (k := k) hsc)
    obtain ⟨a4, c4, rfl⟩ := ho4.form
    have HX4 := Lib.hid ho4.ens
    have HB4 := Lib.hid (HB3.out.stay0 hs4)
    have HD4 := Lib.hid (hs4.cell HD3.out (fun x => x))
    have HS4 := Lib.hid (HS3.out.trans hs4)
    obtain ⟨d, hd⟩ : ∃ d, d = w4.heap.size := ⟨_, rfl⟩
    obtain ⟨w5, hw5⟩ : ∃ w5, w4.alloc (.cells #[.slice a4 ch.length c4] 34) = w5 := ⟨_, rfl⟩
    have hs5 : Stay (fun _ => False) w4 w5 := hw5 ▸ Stay.alloc _ _
    have hd5 : w5.cell? ⟨d, 0, none⟩ = some (.slice a4 ch.length c4) := by
      rw [← hw5, hd, cell_of_row _ w4.heap.size 0 _ _ _ (heap_alloc_new w4 _)]
      rfl
    have hc5 := hs5.cell HD4.out (fun x => x)
    have HD5 := Lib.hid hd5
    have HC5 := Lib.hid hc5
    have HX5 := Lib.hid (HX4.out.stay0 hs5)
    have HB5 := Lib.hid (HB4.out.stay0 hs5)
    have HS5 := Lib.hid (HS4.out.trans hs5)
    have W5 := Lib.hid hw5
    have HD := Lib.hid hd
    clear hs4 ho4 hch hsc hw5 hs5 hd hd5 hc5 HGM HX4 HB4 HS4 HD4 HB3 HD3 HT3
    go_wp2_with fail
    rw [W5.out, ← HD.out]
    refine (search_get ch.length (fun i => !ltB (keyAt ch i) k) _ _ w5 hcl HFM.out (fun W hW i hi => get1_any W d b _ ch k i (hW.cell HD5.out (fun x => x)) (hW.cell HC5.out (fun x => x)) (HX5.out.stay0 hW) hi hcl)).mono ?_
    rintro e w6 ⟨⟨i, rfl, hi⟩, hs6⟩
    have HPI := Lib.hid (from_pos hi)
    have hil := hi.le
    have hd6 := hs6.cell HD5.out (fun x => x)
    have hc6 := hs6.cell HC5.out (fun x => x)
    have HX6 := Lib.hid (HX5.out.stay0 hs6)
    have HB6 := Lib.hid (HB5.out.stay0 hs6)
    have HS6 := Lib.hid (HS5.out.trans hs6)
    have hcli : (ch.length : Int) ≤ 1000000 := by omega
    clear hi hs6 HFM HD5 HC5 HX5 HB5 HS5
    by_cases hlt : i < ch.length
    · obtain ⟨e, he, hek⟩ := at_of hlt
      obtain ⟨g, o, rfl, _, hcs⟩ := HX6.out.at (by omega)
      obtain ⟨c0, c1, c2⟩ := hcs _ e he
      have hne : ((i : Int) == (ch.length : Int)) = false := beq_eq_false_iff_ne.2 (by omega)
      have hii : (i : Int) < ch.length := by omega
      have HHB := Lib.hid (show Me.hasB ch k = (e.k == k) by unfold Me.hasB; rw [HPI.out, he])
      have HEE := Lib.hid he
      have kl := Lib.hid (fun W (hW : Stay (fun _ => False) w6 W) => Me.run_load_at (hW.cell c0 (fun x => x)) (hW.cell c1 (fun x => x)) (hW.cell c2 (fun x => x)))
      have HD6 := Lib.hid hd6
      clear hcs c1 c2 he hek hlt hil
      by_cases hkk : e.k = k
      · have hkb : (e.k == k) = true := by simpa using hkk
        have HRES := Lib.hid (show getL L k = some e by rw [HGC.out, HGS.out, HHB.out, hkb, if_pos rfl, HPI.out, HEE.out])
        clear hkk
        go_wp2
        go_quiet (fail)
        have HB7 := Lib.hid (HB6.out.stay0 (Pk.stay_drewN w6 nq))
        have HS7 := Lib.hid (HS6.out.trans (Pk.stay_drewN w6 nq))
        have kl7 := Lib.hid (kl.out _ (Pk.stay_drewN w6 nq))
        go_wp2_with (first
          | (refine Me.wpList_load_run (by rfl) 42 (.tmp 51) rfl ⟨g, o + i * 3, none⟩ rfl _ kl7.out ?_)
          | (refine Box.store HB7.out rfl (.tmp 4) (.tmp 52) rfl rfl e rfl ?_
             intro w8 hb8 hs8
             have H8 := Lib.hid hb8
             have HS8 := Lib.hid (stay_seal (HS7.out.mono (fun _ x => x.elim) |>.trans hs8) (fun k hk => by have hk' : k = b + 1 := hk; have := HB.out; omega))
             clear hb8 hs8))
        have hld := H8.out.run_load
        refine bodyPost_ret (v := .tuple #[enV e, .bool true, .nilIface]) (by simp [results, Tryz.results127, asAddr, hld]) rfl ⟨by rw [HRES.out]; rfl, HS8.out⟩
      · have hkb : (e.k == k) = false := by simpa using hkk
        have HRES := Lib.hid (show getL L k = none by rw [HGC.out, HGS.out, HHB.out, hkb, if_neg (by decide)])
        clear hkk
        go_wp2
        go_quiet (fail)
        have HB7 := Lib.hid (HB6.out.stay0 (Pk.stay_drewN w6 nq))
        have HS7 := Lib.hid (HS6.out.trans (Pk.stay_drewN w6 nq))
        go_wp2_with (first
          | (refine Box.store HB7.out rfl (.tmp 4) (.tmp 48) rfl rfl ⟨[], [], false⟩ rfl ?_
             intro w8 hb8 hs8
             have H8 := Lib.hid hb8
             have HS8 := Lib.hid (stay_seal (HS7.out.mono (fun _ x => x.elim) |>.trans hs8) (fun k hk => by have hk' : k = b + 1 := hk; have := HB.out; omega))
             clear hb8 hs8))
        have hld := H8.out.run_load
        refine bodyPost_ret (v := .tuple #[enV ⟨[], [], false⟩, .bool false, .nilIface]) (by simp [results, Tryz.results127, asAddr, hld]) rfl ⟨by rw [HRES.out]; rfl, HS8.out⟩
    · obtain rfl : i = ch.length := by omega
      have HRES := Lib.hid (show getL L k = none by
        rw [HGC.out, HGS.out, if_neg]
        intro h
        have := Me.hasB_lt h
        rw [HPI.out] at this
        omega)
      have hne : ((ch.length : Int) == (ch.length : Int)) = true := by simp
      clear hlt hil
      go_wp2
      go_quiet (fail)
      have HB7 := Lib.hid (HB6.out.stay0 (Pk.stay_drewN w6 nq))
      have HS7 := Lib.hid (HS6.out.trans (Pk.stay_drewN w6 nq))
      go_wp2_with (first
        | (refine Box.store HB7.out rfl (.tmp 4) (.tmp 48) rfl rfl ⟨[], [], false⟩ rfl ?_
           intro w8 hb8 hs8
           have H8 := Lib.hid hb8
           have HS8 := Lib.hid (stay_seal (HS7.out.mono (fun _ x => x.elim) |>.trans hs8) (fun k hk => by have hk' : k = b + 1 := hk; have := HB.out; omega))
           clear hb8 hs8))
      have hld := H8.out.run_load
      refine bodyPost_ret (v := .tuple #[enV ⟨[], [], false⟩, .bool false, .nilIface]) (by simp [results, Tryz.results127, asAddr, hld]) rfl ⟨by rw [HRES.out]; rfl, HS8.out⟩

set_option maxHeartbeats 4000000 in
theorem entries_any (w : World) (t p q : Nat) (L : List En) (h : TAt w t L p q) :
    Calls Tryz.prog 74 #[.pointer (some ⟨t, 0, none⟩)] w fun e w' => (∃ v, e = .returned (.tuple #[v, .nilIface]) ∧ EnO w.heap.size w' v L) ∧ Stay (fun _ => False) w w' := by
  have HT := Lib.hid h
  obtain ⟨g, c, hcb, hp1, _⟩ := h.parts
  have hn2 := h.n2
  have hp := h.p1
  have HTK := Lib.hid (show ∀ i, L.take ((i + 1) * p) = L.take (i * p) ++ chunk L p i from fun i => (take_chunk L p i).symm)
  have HAL := Lib.hid (show L.take (cN L.length p * p) = L from List.take_of_length_le (cN_end hp))
  have HTL := Lib.hid (show ∀ i, (L.take (i * p)).length + (chunk L p i).length ≤ 1000000 from fun i => by
    have := congrArg List.length (HTK.out i)
    rw [List.length_append, List.length_take] at this
    omega)
  obtain ⟨n, hn⟩ : ∃ n, n = cN L.length p := ⟨_, rfl⟩
  rw [← hn] at hcb hp1 HAL
  have HN := Lib.hid hn
  have hnm : (n : Int) ≤ 1000000 := by omega
  clear h hn hn2 hp
  go_enter Tryz.func74, Tryz.ntmps74
  go_wp2
  go_loopw [4, 16] (fun v i wr => ∃ k : Nat, k ≤ n ∧ i = .int .i64 (k : Int) ∧ Hid (EnO w.heap.size wr v (L.take (k * p))) ∧ Stay (fun _ => False) w wr) (fun _ i _ => n - (intOf i).toNat)
  case atStart => exact ⟨0, Nat.zero_le _, rfl, Lib.hid (by rw [Nat.zero_mul]; exact EnO.nil _ _), Stay.refl _ _⟩
  case round =>
    obtain ⟨k, hk, rfl, ho, hst⟩ := hrel
    have HS := Lib.hid hst
    clear hst
    obtain ⟨M, hM⟩ : ∃ M, M = L.take (k * p) := ⟨_, rfl⟩
    rw [← hM] at ho
    have HMM := Lib.hid hM
    clear hM
    obtain ⟨va, vc, rfl⟩ := ho.out.form
    by_cases hlt : k < n
    · go_wp2_with fail
      refine (part_any wr t p q k L (HT.out.stay0 HS.out) (by rw [← HN.out]; omega)).mono ?_
      rintro e w2 ⟨⟨v2, rfl, ho2⟩, hs2⟩
      obtain ⟨ch, hch⟩ : ∃ ch, ch = chunk L p k := ⟨_, rfl⟩
      rw [← hch] at ho2
      have HCH := Lib.hid hch
      have HLL := Lib.hid (show (M.length + ch.length) * 40 ≤ 140737488355328 by have := HTL.out k; rw [← HMM.out, ← HCH.out] at this; omega)
      obtain ⟨a2, c2, rfl⟩ := ho2.form
      have HE2 := Lib.hid ho2.ens
      have HO2 := Lib.hid (ho.out.stay0 hs2)
      have HS2 := Lib.hid (HS.out.trans hs2)
      have hz2 := HS2.out.size
      clear hch ho2 hs2
      go_wp2_with (at_builtin; refine Me.wpList_append_en rfl (.tmp 28) (.tmp 29) 34 rfl Tryz.underlying34 rfl rfl HO2.out HE2.out HLL.out hz2 ?_; intro v7 w7 ho7 hs7 hn7; have HO7 := Lib.hid ho7; have HS7 := Lib.hid (show Stay (fun _ => False) w w7 from stay_seal (X := fun j => w.heap.size ≤ j) ((HS2.out.mono (fun _ x => x.elim)).trans (hs7.mono (fun j e => (HO2.out.lt j e).1))) (fun j hj => hj)); clear ho7 hs7 hn7)
      go_roundw
      case rel => exact ⟨k + 1, by omega, by go_num, Lib.hid (by rw [HTK.out, ← HMM.out, ← HCH.out]; exact HO7.out), HS7.out⟩
      case measure => simp [intOf]; omega
    · obtain rfl : k = n := by omega
      go_wp2
      go_ret2
      exact ⟨⟨_, rfl, by rw [HAL.out] at HMM; rw [← HMM.out]; exact ho.out⟩, HS.out⟩
end Go.Proofs.YtljlfdhjolcnaaaGreat.Tb

