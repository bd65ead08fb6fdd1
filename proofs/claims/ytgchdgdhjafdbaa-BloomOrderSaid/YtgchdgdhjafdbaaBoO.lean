/-
  bloom: keys laid in one after the other, in plain lists; the filter's own bytes are the filter's.
-/
import Derived.Test.YtgchdgdhjafdbaaBoF
import Derived.Test.YtgchdgdhjafdbaaBoQ
namespace Go.Proofs.Ytgchdgdhjafdbaa.Bo
open Go.RowKit Pk

/-- A key laid in; keys laid in. -/
def addK (q : Nat) (B : List Bool) (k : List UInt8) : List Bool := addB B (bitsN B.length q k)
def addAll (q : Nat) (B : List Bool) (ks : List (List UInt8)) : List Bool := ks.foldl (addK q) B
theorem addK_len (q : Nat) (B : List Bool) (k : List UInt8) : (addK q B k).length = B.length := addB_len _ _
theorem addAll_len (q : Nat) (ks : List (List UInt8)) : ∀ B : List Bool, (addAll q B ks).length = B.length := by
  induction ks with
  | nil => intro B; rfl
  | cons k r ih => intro B; exact (ih (addK q B k)).trans (addK_len q B k)
theorem addAll_snoc (q : Nat) (B : List Bool) (ks : List (List UInt8)) (k : List UInt8) : addAll q B (ks ++ [k]) = addK q (addAll q B ks) k := by simp [addAll]
theorem addAll_two (q : Nat) (B : List Bool) (ks : List (List UInt8)) (k j : List UInt8) : addAll q B (ks ++ [k, j]) = addK q (addK q (addAll q B ks) k) j := by simp [addAll]
theorem addK_at {q : Nat} {B : List Bool} (hB : 0 < B.length) (k : List UInt8) (m : Nat) : (addK q B k).getD m false = (B.getD m false || decide (m ∈ bitsN B.length q k)) :=
  addB_at _ B (fun _ hn => bitsN_lt hB hn) m
theorem addAll_at (q : Nat) (ks : List (List UInt8)) : ∀ B : List Bool, 0 < B.length → ∀ m, (addAll q B ks).getD m false = (B.getD m false || ks.any (fun k => decide (m ∈ bitsN B.length q k))) := by
  induction ks with
  | nil => intro B _ m; simp [addAll]
  | cons k r ih =>
    intro B hB m
    have h := ih (addK q B k) (by rw [addK_len]; exact hB) m
    show (addAll q (addK q B k) r).getD m false = _
    rw [h, addK_at hB, addK_len, List.any_cons, Bool.or_assoc]
/-- The same keys, in whatever order and however often: the same bits. -/
theorem addAll_same {q : Nat} {B : List Bool} (hB : 0 < B.length) {ks js : List (List UInt8)} (h1 : ∀ k ∈ ks, k ∈ js) (h2 : ∀ k ∈ js, k ∈ ks) : addAll q B ks = addAll q B js := by
  refine bits_eq (by rw [addAll_len, addAll_len]) (fun m => ?_)
  rw [addAll_at q ks B hB, addAll_at q js B hB]
  congr 1
  cases h : ks.any (fun k => decide (m ∈ bitsN B.length q k)) with
  | true =>
    obtain ⟨k, hk, hd⟩ := List.any_eq_true.1 h
    exact (List.any_eq_true.2 ⟨k, h1 k hk, hd⟩).symm
  | false =>
    cases h' : js.any (fun k => decide (m ∈ bitsN B.length q k)) with
    | false => rfl
    | true =>
      obtain ⟨k, hk, hd⟩ := List.any_eq_true.1 h'
      rw [List.any_eq_true.2 ⟨k, h2 k hk, hd⟩] at h
      cases h
/-- What was laid in may be there. -/
theorem may_all {q : Nat} {B : List Bool} (hB : 0 < B.length) {ks : List (List UInt8)} {k : List UInt8} (hk : k ∈ ks) : mayB (addAll q B ks) (bitsN B.length q k) = true := by
  unfold mayB
  rw [List.all_eq_true]
  intro n hn
  rw [addAll_at q ks B hB, List.any_eq_true.2 ⟨k, hk, decide_eq_true hn⟩, Bool.or_true]

/-- A filter's own bytes are the filter's. -/
theorem enc_take {q : Nat} {B : List Bool} (h1 : 1 ≤ B.length) (h2 : B.length ≤ 1048576) (h3 : 1 ≤ q) (h4 : q ≤ 16) :
    decA (encB q B) = (B.length, ⟨spellB q ++ bytesB (packB B), 0⟩) ∧ decK (encB q B) = (q, ⟨bytesB (packB B), 0⟩) ∧ decX (encB q B) = (packB B, ⟨[], 0⟩) := by
  have hl : (packB B).length ≤ 131072 := by rw [len_pack]; unfold need; omega
  have e1 : decA (encB q B) = (B.length, ⟨spellB q ++ bytesB (packB B), 0⟩) := by
    unfold decA encB
    rw [List.append_assoc]
    exact takeB_ok rfl (num_spell (by omega) h2 _)
  have e2 : decK (encB q B) = (q, ⟨bytesB (packB B), 0⟩) := by
    unfold decK
    rw [e1]
    exact takeB_ok rfl (num_spell (by omega) h4 _)
  refine ⟨e1, e2, ?_⟩
  unfold decX
  rw [e2]
  refine takeB_ok rfl ?_
  show textB 131072 (bytesB (packB B)) = .ok (packB B, [])
  unfold bytesB
  rw [textB_ok (n := (packB B).length) (r := packB B) (by omega) (num_spell (by omega) (by unfold M64; omega) _) (by omega) (by omega), List.take_of_length_le (Nat.le_refl _), List.drop_eq_nil_of_le (Nat.le_refl _)]
theorem bits_of_pack (B : List Bool) : bitsOf B.length (packB B) = B := by
  refine bits_eq (bitsOf_len _ _) (fun n => ?_)
  by_cases hn : n < B.length
  · rw [List.getD_eq_getElem?_getD, bitsOf_at _ hn]
    exact (packB_is B).bit n
  · rw [getD_out _ (by rw [bitsOf_len]; omega), getD_out _ (by omega)]
theorem odd_pack {B : List Bool} (h1 : 1 ≤ B.length) : oddB (packB B) B.length = false := by
  cases h : oddB (packB B) B.length with
  | false => rfl
  | true =>
    obtain ⟨i, hi, hb⟩ := (odd_iff h1 (len_pack B)).1 h
    rw [(packB_is B).bit, getD_out _ hi] at hb
    cases hb
theorem enc_good {q : Nat} {B : List Bool} (h1 : 1 ≤ B.length) (h2 : B.length ≤ 1048576) (h3 : 1 ≤ q) (h4 : q ≤ 16) : goodB (encB q B) = true ∧ decBits (encB q B) = B ∧ (decK (encB q B)).1 = q := by
  obtain ⟨e1, e2, e3⟩ := enc_take h1 h2 h3 h4
  refine ⟨good_to ⟨by rw [e1]; exact h1, by rw [e2]; exact h3, by rw [e3]; rfl, by rw [e3, e1]; exact len_pack B, by rw [e3, e1]; exact odd_pack h1⟩, ?_, by rw [e2]⟩
  unfold decBits
  rw [e1, e3]
  exact bits_of_pack B
theorem enc_len {q : Nat} {B : List Bool} (h2 : B.length ≤ 1048576) : (encB q B).length ≤ 140737488355328 := by
  have hl : (packB B).length ≤ 131072 := by rw [len_pack]; unfold need; omega
  have a1 := kOf_le B.length
  have a2 := kOf_le q
  have a3 := kOf_le (packB B).length
  unfold encB bytesB
  simp only [List.length_append, length_spellB]
  omega
end Go.Proofs.Ytgchdgdhjafdbaa.Bo
