import Derived.Test.YtljlfdhjolcnaaaGreatRows
import Derived.Lib.Bytealg
import Derived.Test.YtljlfdhjolcnaaaGreatHeldSz
import Derived.Test.YtljlfdhjolcnaaaGreatClassz
import Derived.WalkSpells
import Derived.WalkLawsBesides
import Derived.Lib.Hide
import Derived.Deep.RegionWith
import Derived.Deep.RegionLaw
import Derived.IntWalk
import Derived.OneCell
import Derived.Laws.OwnMore
import Derived.Laws.IdiomStrings
import Derived.Laws.CopyOwn
import Derived.Maps.AppendAt
import Derived.Deep.Slices
import Derived.Lib.AppendZerosOnto
import Derived.Lib.Overlaps
import Derived.Lib.SliceRun
import Derived.SizedLaws
import Derived.ProofKit
import Derived.BigQuiet
import Derived.Deep.QuietTactic
import Derived.LoopTactic
import Derived.Laws.NewBlocks
import Derived.Great.BuildSlice
import Derived.Laws.StructEq
import Derived.Deep.Strs
import Derived.Lib.SmallJoins
import Derived.OpenShut
/-
  mem, plain: how keys are in order; entries in order of their keys; an entry laid in, found, told in a range.
-/
namespace Go.Proofs.YtljlfdhjolcnaaaGreat.Me
set_option maxRecDepth 100000
set_option linter.unusedVariables false

/-- Whether bytes are ahead of others. -/
def ltB (p q : List UInt8) : Bool := decide (p < q)
theorem less_eq : ∀ (x y : List UInt8), Op.bytesLess x y = ltB x y
  | [], [] => by simp [Op.bytesLess, ltB]
  | _ :: _, [] => by simp [Op.bytesLess, ltB]
  | [], _ :: _ => by simp [Op.bytesLess, ltB]
  | a :: x, b :: y => by
    rw [Op.bytesLess, less_eq x y]
    unfold ltB
    simp only [List.cons_lt_cons_iff]
    by_cases h1 : a < b <;> by_cases h2 : a = b <;> by_cases h3 : x < y <;> simp [h1, h2, h3]
theorem cmp_lt : ∀ (x y : List UInt8), decide (Lib.compareBytes x y < 0) = ltB x y
  | [], [] => by simp [Lib.compareBytes, ltB]
  | _ :: _, [] => by simp [Lib.compareBytes, ltB]
  | [], _ :: _ => by simp [Lib.compareBytes, ltB]
  | a :: x, b :: y => by
    have ih := cmp_lt x y
    unfold ltB at ih ⊢
    unfold Lib.compareBytes
    by_cases h1 : a < b
    · simp [h1, List.cons_lt_cons_iff]
    · by_cases h2 : b < a
      · have h3 : a ≠ b := by rintro rfl; exact h1 h2
        simp [h1, h2, h3, List.cons_lt_cons_iff]
      · have h3 : a = b := UInt8.le_antisymm (UInt8.not_lt.1 h2) (UInt8.not_lt.1 h1)
        subst h3
        simp only [h1, if_false, List.cons_lt_cons_iff, false_or, true_and]
        exact ih
theorem cmp_eq0 : ∀ (x y : List UInt8), decide (Lib.compareBytes x y = 0) = (x == y)
  | [], [] => by simp [Lib.compareBytes]
  | _ :: _, [] => by simp [Lib.compareBytes]
  | [], _ :: _ => by simp [Lib.compareBytes]
  | a :: x, b :: y => by
    have ih := cmp_eq0 x y
    unfold Lib.compareBytes
    by_cases h1 : a < b
    · have h3 : a ≠ b := by rintro rfl; exact UInt8.lt_irrefl _ h1
      simp [h1, h3]
    · by_cases h2 : b < a
      · have h3 : a ≠ b := by rintro rfl; exact h1 h2
        simp [h1, h2, h3]
      · have h3 : a = b := UInt8.le_antisymm (UInt8.not_lt.1 h2) (UInt8.not_lt.1 h1)
        subst h3
        simp only [h1, if_false]
        simpa using ih
theorem lt_self (p : List UInt8) : ltB p p = false := by simp [ltB]
theorem lt_asymm {p q : List UInt8} (h : ltB p q = true) : ltB q p = false := by
  unfold ltB at *
  simp only [decide_eq_true_eq, decide_eq_false_iff_not] at *
  exact List.lt_asymm h
theorem lt_one {p q : List UInt8} (h1 : ltB p q = false) (h2 : ltB q p = false) : p = q := by
  unfold ltB at h1 h2
  exact List.le_antisymm (List.not_lt.1 (of_decide_eq_false h2)) (List.not_lt.1 (of_decide_eq_false h1))
theorem lt_trans {p q r : List UInt8} (h1 : ltB p q = true) (h2 : ltB q r = true) : ltB p r = true := by
  unfold ltB at *
  simp only [decide_eq_true_eq] at *
  exact List.lt_trans h1 h2
theorem lt_le {p q r : List UInt8} (h1 : ltB p q = true) (h2 : ltB r q = false) : ltB p r = true := by
  cases h : ltB p r with
  | true => rfl
  | false =>
    cases h3 : ltB r p with
    | true => rw [lt_trans h3 h1] at h2; cases h2
    | false => rw [lt_one h h3] at h1; rw [h1] at h2; cases h2
theorem le_lt {p q r : List UInt8} (h1 : ltB q p = false) (h2 : ltB q r = true) : ltB p r = true := by
  cases h : ltB p q with
  | true => exact lt_trans h h2
  | false => rw [lt_one h h1]; exact h2
theorem lt_ne {p q : List UInt8} (h : ltB p q = true) : p ≠ q := by
  rintro rfl
  rw [lt_self] at h
  cases h
theorem lt_nil (p : List UInt8) : ltB p [] = false := by simp [ltB]

/-- An entry. -/
structure En where
  k : List UInt8
  v : List UInt8
  g : Bool
deriving DecidableEq
/-- One that is gone has no value. -/
def norm (e : En) : En := if e.g then ⟨e.k, [], true⟩ else e
theorem norm_k (e : En) : (norm e).k = e.k := by unfold norm; split <;> rfl
theorem norm_g (e : En) : (norm e).g = e.g := by
  unfold norm
  split
  · rename_i h; exact h.symm
  · rfl
theorem norm_v (e : En) : (norm e).v = if e.g then [] else e.v := by unfold norm; split <;> rfl
theorem norm_len (e : En) : (norm e).v.length ≤ e.v.length := by rw [norm_v]; split <;> simp

/-- How many, from the first on, are ahead of a key. -/
def posN : List En → List UInt8 → Nat
  | [], _ => 0
  | e :: r, k => if ltB e.k k then posN r k + 1 else 0
theorem posN_le (k : List UInt8) : ∀ L : List En, posN L k ≤ L.length
  | [] => Nat.le_refl _
  | e :: r => by
    have := posN_le k r
    unfold posN
    split
    · simp; omega
    · omega
theorem posN_lt (k : List UInt8) : ∀ (L : List En) (t : Nat), t < posN L k → ∀ e, L[t]? = some e → ltB e.k k = true
  | [], t, h, e, _ => by simp [posN] at h
  | x :: r, t, h, e, he => by
    unfold posN at h
    by_cases hx : ltB x.k k = true
    · rw [if_pos hx] at h
      cases t with
      | zero => simp at he; rw [← he]; exact hx
      | succ t => exact posN_lt k r t (by omega) e (by simpa using he)
    · rw [if_neg hx] at h; omega
theorem posN_at (k : List UInt8) : ∀ (L : List En) (e : En), L[posN L k]? = some e → ltB e.k k = false
  | [], e, h => by simp at h
  | x :: r, e, h => by
    unfold posN at h
    by_cases hx : ltB x.k k = true
    · rw [if_pos hx] at h
      exact posN_at k r e (by simpa using h)
    · rw [if_neg hx] at h
      simp at h
      rw [← h]
      simpa using hx
theorem posN_is (k : List UInt8) : ∀ (L : List En) (i : Nat), i ≤ L.length → (∀ t, t < i → ∀ e, L[t]? = some e → ltB e.k k = true) → (∀ e, L[i]? = some e → ltB e.k k = false) → posN L k = i
  | [], i, hi, _, _ => by simp at hi; simp [posN, hi]
  | x :: r, 0, _, _, h2 => by
    unfold posN
    rw [if_neg]
    simp [h2 x rfl]
  | x :: r, i + 1, hi, h1, h2 => by
    unfold posN
    rw [if_pos (h1 0 (by omega) x rfl), posN_is k r i (by simpa using hi) (fun t ht e he => h1 (t + 1) (by omega) e (by simpa using he)) (fun e he => h2 e (by simpa using he))]

/-- Whether a key is there. -/
def hasB (L : List En) (k : List UInt8) : Bool := match L[posN L k]? with
  | some e => e.k == k
  | none => false
/-- An entry laid in. -/
def putL (L : List En) (e : En) : List En := L.take (posN L e.k) ++ norm e :: L.drop (if hasB L e.k then posN L e.k + 1 else posN L e.k)
/-- A key's entry. -/
def getL (L : List En) (k : List UInt8) : Option En := L.find? (fun e => e.k == k)
/-- In order of their keys, each once. -/
def Sorted (L : List En) : Prop := L.Pairwise fun a b => ltB a.k b.k = true
/-- Those from one key on, up to another one. -/
def rangeL (L : List En) (a b : List UInt8) : List En := L.filter fun e => !ltB e.k a && (b == [] || ltB e.k b)
/-- How many bytes. -/
def sizeL : List En → Nat
  | [] => 0
  | e :: r => e.k.length + e.v.length + sizeL r
theorem sizeL_append (A B : List En) : sizeL (A ++ B) = sizeL A + sizeL B := by
  induction A with
  | nil => simp [sizeL]
  | cons e r ih => simp only [List.cons_append, sizeL, ih]; omega
theorem hasB_lt {L : List En} {k : List UInt8} (h : hasB L k = true) : posN L k < L.length := by
  unfold hasB at h
  split at h
  · rename_i e he; exact (List.getElem?_eq_some_iff.1 he).1
  · cases h
theorem length_putL (L : List En) (e : En) : (putL L e).length = if hasB L e.k then L.length else L.length + 1 := by
  have := posN_le e.k L
  unfold putL
  rw [List.length_append, List.length_take, List.length_cons, List.length_drop]
  by_cases h : hasB L e.k = true
  · have := hasB_lt h
    simp only [h, if_true]
    omega
  · simp only [h]
    simp
    omega
theorem length_putL_le (L : List En) (e : En) : (putL L e).length ≤ L.length + 1 := by rw [length_putL]; split <;> omega

theorem sorted_tail {e : En} {r : List En} (h : Sorted (e :: r)) : Sorted r := (List.pairwise_cons.1 h).2
theorem sorted_head {e : En} {r : List En} (h : Sorted (e :: r)) : ∀ x ∈ r, ltB e.k x.k = true := (List.pairwise_cons.1 h).1
theorem sorted_nil : Sorted [] := List.Pairwise.nil
theorem sorted_at {L : List En} (h : Sorted L) {i j : Nat} (hij : i < j) {a b : En} (ha : L[i]? = some a) (hb : L[j]? = some b) : ltB a.k b.k = true := by
  obtain ⟨h1, rfl⟩ := List.getElem?_eq_some_iff.1 ha
  obtain ⟨h2, rfl⟩ := List.getElem?_eq_some_iff.1 hb
  exact List.pairwise_iff_getElem.1 h i j h1 h2 hij
/-- What is not ahead of a key stands behind all that is. -/
theorem sorted_from {L : List En} (h : Sorted L) (k : List UInt8) : ∀ i, posN L k ≤ i → ∀ e, L[i]? = some e → ltB e.k k = false := by
  intro i hi e he
  have hl := (List.getElem?_eq_some_iff.1 he).1
  obtain ⟨x, hx⟩ : ∃ x, L[posN L k]? = some x := ⟨_, List.getElem?_eq_getElem (by omega)⟩
  have h0 := posN_at k L x hx
  by_cases e0 : posN L k = i
  · subst e0
    rw [hx] at he
    cases he
    exact h0
  · have h1 := sorted_at h (show posN L k < i by omega) hx he
    cases h2 : ltB e.k k with
    | false => rfl
    | true => rw [lt_trans h1 h2] at h0; cases h0
theorem hasB_at {L : List En} {k : List UInt8} (h : hasB L k = true) : ∃ e, L[posN L k]? = some e ∧ e.k = k := by
  unfold hasB at h
  split at h
  · rename_i e he
    exact ⟨e, he, by simpa using h⟩
  · cases h
theorem hasB_not {L : List En} {k : List UInt8} (h : hasB L k = false) {e : En} (he : L[posN L k]? = some e) : e.k ≠ k := by
  unfold hasB at h
  rw [he] at h
  simpa using h

theorem find_append {α : Type} (p : α → Bool) (A B : List α) (h : ∀ x ∈ A, p x = false) : (A ++ B).find? p = B.find? p := by
  induction A with
  | nil => rfl
  | cons a r ih => rw [List.cons_append, List.find?_cons, h a (by simp)]; exact ih (fun x hx => h x (by simp [hx]))
theorem find_none {α : Type} (p : α → Bool) (A : List α) (h : ∀ x ∈ A, p x = false) : A.find? p = none := by
  have := find_append p A [] h
  simpa using this

theorem take_lt {L : List En} {k : List UInt8} : ∀ x ∈ L.take (posN L k), ltB x.k k = true := by
  intro x hx
  obtain ⟨t, ht, rfl⟩ := List.getElem_of_mem hx
  rw [List.length_take] at ht
  exact posN_lt k L t (by omega) _ (by rw [List.getElem_take]; exact List.getElem?_eq_getElem (by omega))
theorem drop_ge {L : List En} (h : Sorted L) {k : List UInt8} {i : Nat} (hi : posN L k ≤ i) : ∀ x ∈ L.drop i, ltB x.k k = false := by
  intro x hx
  obtain ⟨t, ht, rfl⟩ := List.getElem_of_mem hx
  rw [List.length_drop] at ht
  refine sorted_from h k (i + t) (by omega) _ ?_
  rw [List.getElem_drop]
  exact List.getElem?_eq_getElem (by omega)
/-- What stands behind the key's place, but for the key itself. -/
theorem drop_gt {L : List En} (h : Sorted L) (k : List UInt8) : ∀ x ∈ L.drop (if hasB L k then posN L k + 1 else posN L k), ltB k x.k = true := by
  intro x hx
  have hge : ltB x.k k = false := drop_ge h (by split <;> omega) x hx
  cases hl : ltB k x.k with
  | true => rfl
  | false =>
    exfalso
    have hk := lt_one hge hl
    obtain ⟨t, ht, rfl⟩ := List.getElem_of_mem hx
    rw [List.length_drop] at ht
    rw [List.getElem_drop] at hk
    by_cases hb : hasB L k = true
    · simp only [hb, if_true] at hk ht
      obtain ⟨e, he, hek⟩ := hasB_at hb
      have := sorted_at h (show posN L k < posN L k + 1 + t by omega) he (List.getElem?_eq_getElem (by omega))
      rw [hek, hk, lt_self] at this
      cases this
    · simp only [Bool.not_eq_true] at hb
      simp only [hb, Bool.false_eq_true, if_false] at hk ht
      obtain ⟨y, hy⟩ : ∃ y, L[posN L k]? = some y := ⟨_, List.getElem?_eq_getElem (by omega)⟩
      have hne := hasB_not hb hy
      cases t with
      | zero =>
        have : L[posN L k + 0] = y := by
          obtain ⟨_, e⟩ := List.getElem?_eq_some_iff.1 hy
          exact e
        rw [this] at hk
        exact hne hk
      | succ t =>
        have h2 := sorted_at h (show posN L k < posN L k + (t + 1) by omega) hy (List.getElem?_eq_getElem (by omega))
        rw [hk] at h2
        rw [posN_at k L y hy] at h2
        cases h2
theorem sorted_put {L : List En} (h : Sorted L) (e : En) : Sorted (putL L e) := by
  unfold putL
  have h1 : Sorted (L.take (posN L e.k)) := List.Pairwise.sublist (List.take_sublist _ _) h
  have h2 : Sorted (L.drop (if hasB L e.k then posN L e.k + 1 else posN L e.k)) := List.Pairwise.sublist (List.drop_sublist _ _) h
  refine List.pairwise_append.2 ⟨h1, List.pairwise_cons.2 ⟨fun x hx => ?_, h2⟩, fun x hx y hy => ?_⟩
  · rw [norm_k]; exact drop_gt h e.k x hx
  · rcases List.mem_cons.1 hy with rfl | hy
    · rw [norm_k]; exact take_lt x hx
    · exact lt_trans (take_lt x hx) (drop_gt h e.k y hy)
theorem getL_sorted {L : List En} (h : Sorted L) (k : List UInt8) : getL L k = if hasB L k then L[posN L k]? else none := by
  have e0 : L = L.take (posN L k) ++ L.drop (posN L k) := (List.take_append_drop _ _).symm
  have e1 : getL L k = (L.drop (posN L k)).find? (fun e => e.k == k) := by
    conv => lhs; rw [getL, e0]
    exact find_append _ _ _ (fun x hx => by simpa using lt_ne (take_lt x hx))
  rw [e1]
  by_cases hb : hasB L k = true
  · rw [if_pos hb]
    obtain ⟨e, he, hek⟩ := hasB_at hb
    obtain ⟨h1, h2⟩ := List.getElem?_eq_some_iff.1 he
    rw [List.drop_eq_getElem_cons h1, List.find?_cons, h2, he]
    simp [hek]
  · rw [if_neg hb]
    refine find_none _ _ (fun x hx => ?_)
    have := drop_gt h k x (by rw [if_neg hb]; exact hx)
    have h3 := lt_ne this
    simpa using fun h => h3 h.symm
theorem get_put {L : List En} (h : Sorted L) (e : En) (k : List UInt8) : getL (putL L e) k = if e.k = k then some (norm e) else getL L k := by
  by_cases hk : e.k = k
  · rw [if_pos hk]
    subst hk
    unfold getL putL
    rw [find_append _ _ _ (fun x hx => by simpa using lt_ne (take_lt x hx)), List.find?_cons]
    simp [norm_k]
  · rw [if_neg hk]
    have e1 : getL L k = (L.take (posN L e.k) ++ L.drop (if hasB L e.k then posN L e.k + 1 else posN L e.k)).find? (fun e => e.k == k) := by
      by_cases hb : hasB L e.k = true
      · obtain ⟨x, hx, hxk⟩ := hasB_at hb
        obtain ⟨h1, h2⟩ := List.getElem?_eq_some_iff.1 hx
        rw [if_pos hb]
        conv => lhs; rw [getL, ← List.take_append_drop (posN L e.k) L, List.drop_eq_getElem_cons h1, h2]
        have : (x.k == k) = false := by simpa [hxk] using hk
        rw [List.find?_append, List.find?_append, List.find?_cons, this]
      · rw [if_neg hb, List.take_append_drop]
        rfl
    rw [e1]
    unfold getL putL
    have : ((norm e).k == k) = false := by simpa [norm_k] using hk
    rw [List.find?_append, List.find?_append, List.find?_cons, this]

theorem getL_mem {L : List En} (h : Sorted L) (e : En) : e ∈ L ↔ getL L e.k = some e := by
  constructor
  · intro he
    induction L with
    | nil => cases he
    | cons a r ih =>
      unfold getL
      rw [List.find?_cons]
      rcases List.mem_cons.1 he with rfl | hr
      · simp
      · have h1 := sorted_head h e hr
        have : (a.k == e.k) = false := by simpa using lt_ne h1
        rw [this]
        exact ih (sorted_tail h) hr
  · intro he
    exact List.mem_of_find?_eq_some he
theorem sorted_ext : ∀ {A B : List En}, Sorted A → Sorted B → (∀ e, e ∈ A ↔ e ∈ B) → A = B
  | [], [], _, _, _ => rfl
  | [], b :: B, _, _, h => by have := (h b).2 (by simp); cases this
  | a :: A, [], _, _, h => by have := (h a).1 (by simp); cases this
  | a :: A, b :: B, hA, hB, h => by
    have hab : a = b := by
      rcases List.mem_cons.1 ((h a).1 (by simp)) with e | h1
      · exact e
      · rcases List.mem_cons.1 ((h b).2 (by simp)) with e | h2
        · exact e.symm
        · have h3 := sorted_head hB a h1
          have h4 := sorted_head hA b h2
          rw [lt_asymm h3] at h4
          cases h4
    subst hab
    congr 1
    refine sorted_ext (sorted_tail hA) (sorted_tail hB) (fun e => ⟨fun he => ?_, fun he => ?_⟩)
    · rcases List.mem_cons.1 ((h e).1 (by simp [he])) with rfl | h1
      · have := sorted_head hA e he
        rw [lt_self] at this
        cases this
      · exact h1
    · rcases List.mem_cons.1 ((h e).2 (by simp [he])) with rfl | h1
      · have := sorted_head hB e he
        rw [lt_self] at this
        cases this
      · exact h1
theorem get_ext {A B : List En} (hA : Sorted A) (hB : Sorted B) (h : ∀ k, getL A k = getL B k) : A = B :=
  sorted_ext hA hB (fun e => by rw [getL_mem hA, getL_mem hB, h])

theorem filter_none {α : Type} (p : α → Bool) (A : List α) (h : ∀ x ∈ A, p x = false) : A.filter p = [] := List.filter_eq_nil_iff.2 (fun x hx => by simp [h x hx])
theorem range_sorted (a b : List UInt8) : ∀ {L : List En}, Sorted L → rangeL L a b = (L.drop (posN L a)).take (max (posN L a) (if b = [] then L.length else posN L b) - posN L a)
  | [], _ => by simp [rangeL, posN]
  | e :: r, h => by
    have ih := range_sorted a b (sorted_tail h)
    have hh := sorted_head h
    unfold rangeL at ih ⊢
    by_cases h1 : ltB e.k a = true
    · have e1 : posN (e :: r) a = posN r a + 1 := by simp [posN, h1]
      rw [e1, List.filter_cons_of_neg (by simp [h1]), List.drop_succ_cons, ih]
      by_cases hb : b = []
      · simp only [hb, if_true, List.length_cons]
        congr 1
        omega
      · simp only [hb, if_false]
        by_cases h2 : ltB e.k b = true
        · simp only [posN, h2, if_true]
          congr 1
          omega
        · have e2 : posN (e :: r) b = 0 := by simp [posN, h2]
          have e3 : posN r b = 0 := by
            refine posN_is b r 0 (by omega) (fun t ht => by omega) (fun x hx => ?_)
            cases h3 : ltB x.k b with
            | false => rfl
            | true => exact absurd (lt_trans (hh x (List.mem_of_getElem? hx)) h3) h2
          rw [e2, e3]
          simp
    · have h1' : ltB e.k a = false := by simpa using h1
      have e1 : posN (e :: r) a = 0 := by simp [posN, h1']
      have e1r : posN r a = 0 := by
        refine posN_is a r 0 (by omega) (fun t ht => by omega) (fun x hx => ?_)
        cases h3 : ltB x.k a with
        | false => rfl
        | true => exact absurd (lt_trans (hh x (List.mem_of_getElem? hx)) h3) h1
      rw [e1, List.drop_zero, Nat.sub_zero, Nat.zero_max]
      rw [e1r, List.drop_zero, Nat.sub_zero, Nat.zero_max] at ih
      by_cases hb : b = []
      · rw [List.filter_cons_of_pos (by simp [h1', hb]), ih]
        simp [hb]
      · by_cases h2 : ltB e.k b = true
        · rw [List.filter_cons_of_pos (by simp [h1', h2]), ih]
          simp [hb, posN, h2]
        · have e2 : posN (e :: r) b = 0 := by simp [posN, h2]
          simp only [hb, if_false, e2, List.take_zero]
          refine filter_none _ _ (fun x hx => ?_)
          have : ltB x.k b = false := by
            rcases List.mem_cons.1 hx with rfl | hx
            · simpa using h2
            · cases h3 : ltB x.k b with
              | false => rfl
              | true => exact absurd (lt_trans (hh x hx) h3) h2
          simp [this, hb]
end Go.Proofs.YtljlfdhjolcnaaaGreat.Me

/-
  mem: entries in memory: slices that read as entries, and the call's own; a map of entries behind a pointer; whole entries loaded, appended, copied.
-/
namespace Go.Proofs.YtljlfdhjolcnaaaGreat.Me
open Go.RowKit Go.Maps
set_option maxRecDepth 100000
set_option linter.unusedVariables false

abbrev strV (b : List UInt8) : Value := .string ⟨b.toArray⟩
def enC (e : En) : List Value := [strV e.k, strV e.v, .bool e.g]
def enV (e : En) : Value := .agg (enC e).toArray
theorem length_enC (e : En) : (enC e).length = 3 := rfl
theorem one_enC (e : En) : ∀ u ∈ enC e, u.oneCell' = true := by
  intro u hu
  simp [enC] at hu
  rcases hu with rfl | rfl | rfl <;> rfl
def enRows (L : List En) : List Value := L.flatMap enC
theorem enRows_append (A B : List En) : enRows (A ++ B) = enRows A ++ enRows B := by simp [enRows]
theorem enRows_cons (e : En) (r : List En) : enRows (e :: r) = enC e ++ enRows r := by simp [enRows]
theorem length_enRows : ∀ L : List En, (enRows L).length = L.length * 3
  | [] => rfl
  | e :: r => by
    have := length_enRows r
    rw [enRows_cons, List.length_append, this, length_enC, List.length_cons]
    omega
theorem enRows_get {e : En} {j : Nat} (hj : j < 3) : ∀ (L : List En) (i : Nat), L[i]? = some e → (enRows L)[i * 3 + j]? = (enC e)[j]?
  | [], i, h => by simp at h
  | x :: L, 0, h => by
    simp at h
    subst h
    rw [enRows_cons, List.getElem?_append_left (by rw [length_enC]; omega), Nat.zero_mul, Nat.zero_add]
  | x :: L, i + 1, h => by
    have ih := enRows_get hj L i (by simpa using h)
    rw [enRows_cons, List.getElem?_append_right (by rw [length_enC]; omega), length_enC, ← ih]
    congr 1
    omega
theorem enRows_take : ∀ (L : List En) (i : Nat), i ≤ L.length → (enRows L).take (i * 3) = enRows (L.take i)
  | L, 0, _ => by simp [enRows]
  | [], i + 1, h => by simp at h
  | e :: r, i + 1, h => by
    rw [enRows_cons, List.take_succ_cons, enRows_cons, List.take_append, length_enC, List.take_of_length_le (by rw [length_enC]; omega), show (i + 1) * 3 - 3 = i * 3 by omega, enRows_take r i (by simpa using h)]
theorem enRows_drop : ∀ (L : List En) (i : Nat), i ≤ L.length → (enRows L).drop (i * 3) = enRows (L.drop i)
  | L, 0, _ => by simp
  | [], i + 1, h => by simp at h
  | e :: r, i + 1, h => by
    rw [enRows_cons, List.drop_succ_cons, List.drop_append, length_enC, List.drop_eq_nil_of_le (by rw [length_enC]; omega), show (i + 1) * 3 - 3 = i * 3 by omega, enRows_drop r i (by simpa using h), List.nil_append]
theorem one_enRows (L : List En) : ∀ u ∈ enRows L, u.oneCell' = true := by
  intro u hu
  obtain ⟨e, _, he⟩ := List.mem_flatMap.1 hu
  exact one_enC e u he
/-- The cells of entries, each by its number. -/
theorem enRows_all {w : World} {g o : Nat} {L : List En} (h : ∀ i e, L[i]? = some e → ∀ j u, (enC e)[j]? = some u → w.cell? ⟨g, o + i * 3 + j, none⟩ = some u) : ∀ j u, (enRows L)[j]? = some u → w.cell? ⟨g, o + j, none⟩ = some u := by
  intro j u hu
  have hj := (List.getElem?_eq_some_iff.1 hu).1
  rw [length_enRows] at hj
  obtain ⟨e, he⟩ : ∃ e, L[j / 3]? = some e := ⟨_, List.getElem?_eq_getElem (by omega)⟩
  have h1 := enRows_get (e := e) (j := j % 3) (by omega) L (j / 3) he
  rw [show j / 3 * 3 + j % 3 = j by omega, hu] at h1
  have := h _ e he _ u h1.symm
  rw [show o + j / 3 * 3 + j % 3 = o + j by omega] at this
  exact this

/-- A slice that reads as entries. -/
def EnS (w : World) (x : Value) (L : List En) : Prop :=
  ∃ a0 c, x = .slice a0 L.length c ∧ L.length ≤ c ∧ c ≤ 9223372036854775807 ∧ (a0 = none → c = 0) ∧ (0 < L.length → ∃ g o, a0 = some ⟨g, o, none⟩ ∧ ∀ i e, L[i]? = some e → ∀ j u, (enC e)[j]? = some u → w.cell? ⟨g, o + i * 3 + j, none⟩ = some u)
section
variable {w w' : World} {x : Value} {L : List En} {X : Nat → Prop}
theorem EnS.stay (h : EnS w x L) (hs : Stay X w w') (hx : ∀ k, x.ownBlock = some k → ¬ X k) : EnS w' x L := by
  obtain ⟨a0, c, rfl, h1, h2, h3, h4⟩ := h
  refine ⟨a0, c, rfl, h1, h2, h3, fun h0 => ?_⟩
  obtain ⟨g, o, rfl, hc⟩ := h4 h0
  exact ⟨g, o, rfl, fun i e he j u hu => hs.cell (hc i e he j u hu) (hx g rfl)⟩
theorem EnS.stay0 (h : EnS w x L) (hs : Stay (fun _ => False) w w') : EnS w' x L := h.stay hs (fun _ _ x => x)
theorem EnS.nil (w : World) : EnS w (.slice none 0 0) [] := ⟨none, 0, rfl, Nat.le_refl _, by decide, fun _ => rfl, fun h => absurd h (Nat.lt_irrefl 0)⟩
theorem EnS.form (h : EnS w x L) : ∃ a c, x = .slice a L.length c := by
  obtain ⟨a0, c, e, _⟩ := h
  exact ⟨a0, c, e⟩
theorem EnS.at {a0 : Option Addr} {n c : Nat} (h : EnS w (.slice a0 n c) L) (h0 : 0 < L.length) : ∃ g o, a0 = some ⟨g, o, none⟩ ∧ g < w.heap.size ∧ ∀ i e, L[i]? = some e → w.cell? ⟨g, o + i * 3, none⟩ = some (strV e.k) ∧ w.cell? ⟨g, o + i * 3 + 1, none⟩ = some (strV e.v) ∧ w.cell? ⟨g, o + i * 3 + 2, none⟩ = some (.bool e.g) := by
  obtain ⟨a1, c1, e, h1, h2, h3, h4⟩ := h
  cases e
  obtain ⟨g, o, rfl, hc⟩ := h4 h0
  obtain ⟨e, he⟩ : ∃ e, L[0]? = some e := ⟨_, List.getElem?_eq_getElem h0⟩
  exact ⟨g, o, rfl, World.block_lt_of_cell? w _ (hc 0 e he 0 _ rfl), fun i e he => ⟨hc i e he 0 _ rfl, hc i e he 1 _ rfl, hc i e he 2 _ rfl⟩⟩
/-- The first entries. -/
theorem EnS.first {a0 : Option Addr} {n c i : Nat} (h : EnS w (.slice a0 n c) L) (hi : i ≤ L.length) : EnS w (.slice a0 i c) (L.take i) := by
  obtain ⟨a1, c1, e, h1, h2, h3, h4⟩ := h
  cases e
  have hl : (L.take i).length = i := by rw [List.length_take]; omega
  refine ⟨a0, c, by rw [hl], by omega, h2, h3, fun h0 => ?_⟩
  obtain ⟨g, o, rfl, hc⟩ := h4 (by omega)
  refine ⟨g, o, rfl, fun t e he => hc t e ?_⟩
  rw [List.getElem?_take] at he
  split at he
  · exact he
  · cases he
/-- Those behind i entries. -/
theorem EnS.cut {a0 : Option Addr} {n c i : Nat} (h : EnS w (.slice a0 n c) L) (hi : i ≤ L.length) : EnS w (.slice (if c = i then a0 else a0.map (·.add (i * 3))) (n - i) (c - i)) (L.drop i) := by
  obtain ⟨a1, c1, e, h1, h2, h3, h4⟩ := h
  cases e
  refine ⟨_, c - i, by rw [List.length_drop], by rw [List.length_drop]; omega, by omega, fun e => ?_, fun h0 => ?_⟩
  · split at e
    · omega
    · cases a0 with
      | none => have := h3 rfl; omega
      | some ad => cases e
  · rw [List.length_drop] at h0
    obtain ⟨g, o, rfl, hc⟩ := h4 (by omega)
    rw [if_neg (by omega)]
    refine ⟨g, o + i * 3, by rw [Option.map_some, add_at], fun t e he j u hu => ?_⟩
    rw [List.getElem?_drop] at he
    have := hc (i + t) e he j u hu
    rw [show o + (i + t) * 3 + j = o + i * 3 + t * 3 + j by omega] at this
    exact this
end

/-- The entry of nothing. -/
def zeroV : Value := .agg #[.string ⟨#[]⟩, .string ⟨#[]⟩, .bool false]
theorem info_en : (Tryz.prog.info? 42).map (fun i => (i.zero, i.size, i.bytes)) = some (some zeroV, 3, 40) := by kernel_rfl
theorem zero_en (w : World) : (zeroValue 42).run Tryz.prog w = .ok zeroV w := by kernel_rfl
theorem size_en : (Tryz.prog.info? 42).map (·.size) = some 3 := by
  obtain ⟨i0, hi, _, h, _⟩ := info_parts info_en
  rw [hi]
  simp [h]
theorem sizeOf_en (w : World) : (sizeOf 42).run Tryz.prog w = .ok 3 w := by
  obtain ⟨i0, hi, _, h, _⟩ := info_parts info_en
  simp [sizeOf, typeInfo, hi, h]

section
variable {P : Program}
theorem run_loadVar_at (w : World) (ad : Addr) (ty : TypeId) (cs : List Value) (d : TypeDesc)
    (hu : P.underlying ty = some d) (hd : (match d with | .struct _ | .array _ _ => true | _ => false) = true) (hi : (P.info? ty).map (·.size) = some cs.length)
    (hcs : ∀ j v, cs[j]? = some v → w.cell? (ad.add j) = some v) :
    (loadVar ty ad).run P w = .ok (.agg cs.toArray) w := by
  have hl : (loadCells ad cs.length).run P w = .ok cs.toArray w := run_loadCells_list (P := P) w ad cs hcs
  cases hq : P.info? ty with
  | none => simp [hq] at hi
  | some i =>
    have hs : i.size = cs.length := by simpa [hq] using hi
    have hagg : (isAgg ty).run P w = .ok true w := by
      unfold isAgg
      rw [Sem.run_bind, run_underlying hu w]
      cases d <;> simp_all
    simp [loadVar, Sem.run_bind, hagg, sizeOf, typeInfo, hq, hs, hl]
theorem wpList_wanted {ops : Array Oper} {rest : List Oper} {o : Oper} {a : Act} {w : World} {Q : Exit → Act → World → Prop} (hw : Region.wanted o (yielded ops a.tmps) = true) (h : o.wp P a w (wpList P ops Q rest) Q) : wpList P ops Q (o :: rest) a w := by
  unfold wpList
  rw [if_pos hw]
  exact .inl h
/-- A whole struct loaded, whatever holds of the guard, by its run. -/
theorem wpList_load_run {ops : Array Oper} {rest : List Oper} {o : Oper} {a : Act} {w : World} {Q : Exit → Act → World → Prop} (hw : Region.wanted o (yielded ops a.tmps) = true) (ty : TypeId) (x : Operand) (ho : o.op = .load ty x)
    (ad : Addr) (hx : a.eval x = .pointer (some ad)) (v : Value) (hl : (loadVar ty ad).run P w = .ok v w)
    (hn : wpList P ops Q rest (a.put o.dst v) w) : wpList P ops Q (o :: rest) a w := by
  refine wpList_wanted hw ?_
  unfold Oper.wp execOp
  simp only [ho, hx, Instr.loadAt, Instr.sureAddr, Sem.run_bind, Sem.run_pure, Result.andThen_ok, hl]
  exact hn

/-- Cells copied over a row that is known whole, whatever size an element has. -/
theorem run_copy_sized (w : World) (dT sT ty elem : TypeId) (sz g o dLen dCap : Nat) (a : Addr) (sLen sCap : Nat) (cur : Array Value) (t : TypeId) (cs : List Value)
    (hu : P.underlying dT = some (.slice elem)) (hs : (P.info? elem).map (·.size) = some sz)
    (hg : w.heap[g]? = some (.cells cur t (0, 0))) (hn : cs.length = Nat.min sLen dLen * sz)
    (hsrc : ∀ j v, cs[j]? = some v → w.cell? (a.add j) = some v) (hfit : o + cs.length ≤ cur.size) (h1 : ∀ v ∈ cs, v.oneCell' = true) :
    (Builtin.copy_ #[dT, sT] ty #[.slice (some ⟨g, o, none⟩) dLen dCap, .slice (some a) sLen sCap]).run P w =
      .ok (goInt (Nat.min sLen dLen)) (w.setRow g (splice cur.toList o cs).toArray) := by
  have hl := run_loadCells_list (P := P) w a cs hsrc
  have hst := run_storeCells_at P g o t cs 0 cur w hg (by simpa using hfit) h1
  rw [hn] at hl
  cases hq : P.info? elem with
  | none => simp [hq] at hs
  | some i =>
    have hi : i.size = sz := by simpa [hq] using hs
    simp [Builtin.copy_, run_underlying hu, Builtin.lenOf, Builtin.firstCells, sizeOf, typeInfo, hq, hi, hl, hst, splice]
end

/-- A whole entry loaded. -/
theorem run_load_en {w : World} {ad : Addr} {e : En} (hc : ∀ j u, (enC e)[j]? = some u → w.cell? (ad.add j) = some u) : (loadVar 42 ad).run Tryz.prog w = .ok (enV e) w :=
  run_loadVar_at w ad 42 (enC e) _ Tryz.underlying42 rfl size_en hc
theorem run_load_at {w : World} {g o : Nat} {e : En} (h0 : w.cell? ⟨g, o, none⟩ = some (strV e.k)) (h1 : w.cell? ⟨g, o + 1, none⟩ = some (strV e.v)) (h2 : w.cell? ⟨g, o + 2, none⟩ = some (.bool e.g)) : (loadVar 42 ⟨g, o, none⟩).run Tryz.prog w = .ok (enV e) w :=
  run_load_en (fun j u hu => by
    rw [add_at]
    match j, hu with
    | 0, hu => cases hu; exact h0
    | 1, hu => cases hu; exact h1
    | 2, hu => cases hu; exact h2)
/-- A box that holds an entry. -/
def Box (w : World) (g : Nat) (e : En) : Prop := w.heap[g]? = some (.cells (enC e).toArray 42 (0, 0))
section
variable {w w' : World} {g : Nat} {e : En} {X : Nat → Prop}
theorem Box.new (w : World) (e : En) : Box (w.alloc (.cells (enC e).toArray 42)) w.heap.size e := heap_alloc_new w _
theorem Box.lt (h : Box w g e) : g < w.heap.size := (Array.getElem?_eq_some_iff.1 h).1
theorem Box.stay (h : Box w g e) (hs : Stay X w w') (hx : ¬ X g) : Box w' g e := (hs.block g h.lt hx).trans h
theorem Box.stay0 (h : Box w g e) (hs : Stay (fun _ => False) w w') : Box w' g e := h.stay hs (fun x => x)
theorem Box.c (h : Box w g e) {j : Nat} {u : Value} (hu : (enC e)[j]? = some u) : w.cell? ⟨g, j, none⟩ = some u := by
  rw [cell_of_row w g j _ _ _ h]
  simpa using hu
theorem Box.fr (h : Box w g e) (j : Nat) : w.frozen? ⟨g, j, none⟩ = false := frozen_of_row w g j _ _ h
theorem Box.run_load (h : Box w g e) : (loadVar 42 ⟨g, 0, none⟩).run Tryz.prog w = .ok (enV e) w :=
  run_load_en (fun j u hu => by rw [add_at, Nat.zero_add]; exact h.c hu)
/-- A slice of it alone. -/
theorem Box.one (h : Box w g e) (c : Nat) (hc : 1 ≤ c) (hm : c ≤ 9223372036854775807) : EnS w (.slice (some ⟨g, 0, none⟩) 1 c) [e] :=
  ⟨_, c, rfl, hc, hm, (fun h => by cases h), fun _ => ⟨g, 0, rfl, fun i e' he j u hu => by
    have hi : i = 0 := by
      have := (List.getElem?_eq_some_iff.1 he).1
      simp at this
      omega
    subst hi
    simp at he
    subst he
    rw [show 0 + 0 * 3 + j = j by omega]
    exact h.c hu⟩⟩
/-- One stored into it whole. -/
theorem Box.store (h : Box w g e) {ops : Array Oper} {rest : List Oper} {o : Oper} {a : Act} {Q : Exit → Act → World → Prop} (hgd : o.guard = none) (x y : Operand) (ho : o.op = .store 42 x y)
    (hx : a.eval x = .pointer (some ⟨g, 0, none⟩)) (e' : En) (hy : a.eval y = enV e')
    (hn : ∀ w', Box w' g e' → Stay (· = g) w w' → wpList Tryz.prog ops Q rest (a.put o.dst undef) w') : wpList Tryz.prog ops Q (o :: rest) a w :=
  wpList_store_mid hgd 42 x y ho g 0 hx 42 (enC e) (enC e') hy h size_en (by rw [length_enC, length_enC]; omega) (one_enC e') (fun w' h1 h2 => hn w' h1 h2)
end

/-- Entries of the call's own. -/
def EnO (base : Nat) (w : World) (v : Value) (L : List En) : Prop := w.ownsRow base 42 3 v L.length (enRows L)
section
variable {base : Nat} {w w' : World} {v x : Value} {L M : List En} {X : Nat → Prop}
theorem EnO.stay (h : EnO base w v L) (hs : Stay X w w') (hx : ∀ k, v.ownBlock = some k → ¬ X k) : EnO base w' v L := by
  refine ⟨h.1, ?_⟩
  rcases h.2 with h' | ⟨g, cap, cur, rfl, h4, hg, r⟩
  · exact .inl h'
  · exact .inr ⟨g, cap, cur, rfl, h4, (hs.block g (Array.getElem?_eq_some_iff.1 hg).1 (hx g rfl)).trans hg, r⟩
theorem EnO.stay0 (h : EnO base w v L) (hs : Stay (fun _ => False) w w') : EnO base w' v L := h.stay hs (fun _ _ x => x)
theorem EnO.rebase {base' : Nat} (h : EnO base w v L) (hb : ∀ k, v.ownBlock = some k → base' ≤ k) : EnO base' w v L := by
  refine ⟨h.1, ?_⟩
  rcases h.2 with h' | ⟨g, cap, cur, rfl, h4, r⟩
  · exact .inl h'
  · exact .inr ⟨g, cap, cur, rfl, hb g rfl, r⟩
theorem EnO.lt (h : EnO base w v L) : ∀ k, v.ownBlock = some k → base ≤ k ∧ k < w.heap.size := World.ownsRow.lt h
theorem EnO.nil (base : Nat) (w : World) : EnO base w (.slice none 0 0) [] := World.ownsRow_nil w base _ _
theorem EnO.empty (base : Nat) (w : World) (hb : base ≤ w.heap.size) : EnO base (w.alloc (.cells #[] 42)) (.slice (some ⟨w.heap.size, 0, none⟩) 0 0) [] := World.ownsRow_lit w #[] 0 hb (Nat.zero_le _) rfl
theorem EnO.form (h : EnO base w v L) : ∃ a c, v = .slice a L.length c := by
  rcases h.2 with ⟨e, hn⟩ | ⟨g, cap, cur, e, _⟩
  · exact ⟨none, 0, by rw [e, hn]⟩
  · exact ⟨_, _, e⟩
theorem EnO.ens (h : EnO base w v L) : EnS w v L := by
  have hc := fun g hg => World.ownsRow.cells (g := g) h hg
  rcases h.2 with ⟨e, hn⟩ | ⟨g, cap, cur, e, _, _, h1, h2, _⟩
  · have : L = [] := List.eq_nil_of_length_eq_zero hn
    subst this
    rw [e]
    exact EnS.nil w
  · refine ⟨_, cap, e, h1, by unfold maxLen at h2; omega, (fun h => by cases h), fun _ => ⟨g, 0, rfl, fun i q hq j u hu => ?_⟩⟩
    subst e
    have hj : j < 3 := (List.getElem?_eq_some_iff.1 hu).1
    have := hc g rfl (i * 3 + j) u (by rw [enRows_get hj L i hq]; exact hu)
    rw [add_at] at this
    rw [show 0 + i * 3 + j = 0 + (i * 3 + j) by omega]
    exact this

/-- Entries appended to the call's own, from whatever slice. -/
theorem run_append_en (t ty : TypeId) (ht : Tryz.prog.underlying t = some (.slice 42)) (hown : EnO base w v L) (hx : EnS w x M) (hlen : (L.length + M.length) * 40 ≤ 140737488355328) (hbase : base ≤ w.heap.size) :
    ∃ v' w', (Builtin.append_ #[t, t] ty #[v, x]).run Tryz.prog w = .ok v' w' ∧ EnO base w' v' (L ++ M) ∧ Stay (fun k => v.ownBlock = some k) w w' ∧ (v'.ownBlock = v.ownBlock ∨ v'.ownBlock = some w.heap.size) := by
  obtain ⟨i0, hi, hz, hsize, hby⟩ := info_parts info_en
  obtain ⟨a0, c, rfl, hc, hm, hn, hr⟩ := hx
  cases a0 with
  | none =>
    obtain rfl := hn rfl
    have hM : M = [] := List.eq_nil_of_length_eq_zero (by omega)
    subst hM
    have h1 := run_append_owned_none (P := Tryz.prog) w base t ty _ i0 3 ht hi v L.length (enRows L) hown
    exact ⟨v, w, h1, by rw [List.append_nil]; exact hown, Stay.refl _ _, .inl rfl⟩
  | some ad =>
    by_cases h0 : M.length = 0
    · have hM : M = [] := List.eq_nil_of_length_eq_zero h0
      subst hM
      obtain ⟨v', w', h1, h2, h3, _, h5⟩ := run_append_own_at (P := Tryz.prog) w base t ty _ i0 zeroV 3 40 ht hi hz hsize hby rfl (by decide) v L.length (enRows L) hown ad 0 c [] rfl (fun j u hu => by simp at hu) (fun u hu => by simp at hu) (by unfold maxLen; simp at hlen; omega) (by simp at hlen; omega) hbase
      exact ⟨v', w', h1, by rw [List.append_nil] at h2; rw [List.append_nil]; exact h2, Stay.grown h3 (fun k hk => hk), h5⟩
    · obtain ⟨g, o, e, hcell⟩ := hr (by omega)
      cases e
      obtain ⟨v', w', h1, h2, h3, _, h5⟩ := run_append_own_at (P := Tryz.prog) w base t ty _ i0 zeroV 3 40 ht hi hz hsize hby rfl (by decide) v L.length (enRows L) hown ⟨g, o, none⟩ M.length c (enRows M) (length_enRows M)
        (fun j u hu => by rw [add_at]; exact enRows_all hcell j u hu) (one_enRows M) (by unfold maxLen; omega) hlen hbase
      exact ⟨v', w', h1, by unfold EnO; rw [List.length_append, enRows_append]; exact h2, Stay.grown h3 (fun k hk => hk), h5⟩
theorem wpList_append_en {ops : Array Oper} {rest : List Oper} {o : Oper} {a : Act} {Q : Exit → Act → World → Prop} (hgd : o.guard = none) (s y : Operand) (t : TypeId)
    (ho : o.op = .call { callee := .builtin .append, args := #[s, y], argTypes := #[t, t] }) (ht : Tryz.prog.underlying t = some (.slice 42)) (hs : a.eval s = v) (hy : a.eval y = x) (hown : EnO base w v L) (hx : EnS w x M) (hlen : (L.length + M.length) * 40 ≤ 140737488355328) (hbase : base ≤ w.heap.size)
    (h : ∀ v' w', EnO base w' v' (L ++ M) → Stay (fun k => v.ownBlock = some k) w w' → (v'.ownBlock = v.ownBlock ∨ v'.ownBlock = some w.heap.size) → wpList Tryz.prog ops Q rest (a.put o.dst v') w') : wpList Tryz.prog ops Q (o :: rest) a w :=
  wpList_plain hgd fun _ hK => by
    obtain ⟨v', w', hrun, h2, h3, h4⟩ := run_append_en t o.type ht hown hx hlen hbase
    unfold Oper.wp execOp
    simp only [ho, resolve, invoke, builtin, Sem.run_bind, Sem.run_pure, Result.andThen_ok, List.map_toArray, List.map_cons, List.map_nil, hs, hy, hrun]
    exact hK _ _ (h v' w' h2 h3 h4)
theorem step_append_en {ops : Array Oper} {o : Oper} {a : Act} {K : Act → World → Prop} {Q : Exit → Act → World → Prop} {E : Prop} (hgd : o.guard = none) (s y : Operand) (t : TypeId)
    (ho : o.op = .call { callee := .builtin .append, args := #[s, y], argTypes := #[t, t] }) (ht : Tryz.prog.underlying t = some (.slice 42)) (hs : a.eval s = v) (hy : a.eval y = x) (hown : EnO base w v L) (hx : EnS w x M) (hlen : (L.length + M.length) * 40 ≤ 140737488355328) (hbase : base ≤ w.heap.size)
    (h : ∀ v' w', EnO base w' v' (L ++ M) → Stay (fun k => v.ownBlock = some k) w w' → (v'.ownBlock = v.ownBlock ∨ v'.ownBlock = some w.heap.size) → K (a.put o.dst v') w') :
    if Region.wanted o (yielded ops a.tmps) = true then Oper.wp Tryz.prog o a w K Q else E := by
  have hw : Region.wanted o (yielded ops a.tmps) = true := by simp [Region.wanted, hgd]
  rw [if_pos hw]
  obtain ⟨v', w', hrun, h2, h3, h4⟩ := run_append_en t o.type ht hown hx hlen hbase
  unfold Oper.wp execOp
  simp only [ho, resolve, invoke, builtin, Sem.run_bind, Sem.run_pure, Result.andThen_ok, List.map_toArray, List.map_cons, List.map_nil, hs, hy, hrun]
  exact h v' w' h2 h3 h4
end

/-- What turned lay behind what was there at first. -/
theorem stay_seal {X : Nat → Prop} {w w' : World} (h : Stay X w w') (hx : ∀ k, X k → w.heap.size ≤ k) : Stay (fun _ => False) w w' :=
  ⟨h.os, h.tape, h.output, h.size, fun k hk _ => h.block k hk (fun hX => by have := hx k hX; omega)⟩

/-- A Mem in memory, all of its blocks among B. -/
structure MAt (B : Nat → Prop) (w : World) (p : Nat) (L : List En) : Prop where
  ex : ∃ v, w.heap[p]? = some (.cells #[v] 123 (0, 0)) ∧ EnO 0 w v L ∧ ∀ k, v.ownBlock = some k → B k ∧ k ≠ p
  bp : B p
  srt : Sorted L
section
variable {B B' X : Nat → Prop} {w w' : World} {p : Nat} {L : List En}
theorem MAt.lt (h : MAt B w p L) : p < w.heap.size := by
  obtain ⟨v, h1, _⟩ := h.ex
  exact (Array.getElem?_eq_some_iff.1 h1).1
theorem MAt.stay (h : MAt B w p L) (hs : Stay X w w') (hx : ∀ k, B k → ¬ X k) : MAt B w' p L := by
  obtain ⟨v, h1, h2, h3⟩ := h.ex
  exact ⟨⟨v, (hs.block p h.lt (hx p h.bp)).trans h1, h2.stay hs (fun k hk => hx k (h3 k hk).1), h3⟩, h.bp, h.srt⟩
theorem MAt.stay0 (h : MAt B w p L) (hs : Stay (fun _ => False) w w') : MAt B w' p L := h.stay hs (fun _ _ x => x)
theorem MAt.mono (h : MAt B w p L) (hb : ∀ k, k < w.heap.size → B k → B' k) : MAt B' w p L := by
  obtain ⟨v, h1, h2, h3⟩ := h.ex
  exact ⟨⟨v, h1, h2, fun k hk => ⟨hb k (h2.lt k hk).2 (h3 k hk).1, (h3 k hk).2⟩⟩, hb p h.lt h.bp, h.srt⟩
end

/-- What a pointer to a Mem reads as: nil is none. -/
def MR (w : World) (pv : Value) (L : List En) : Prop := (pv = .pointer none ∧ L = []) ∨ ∃ p v, pv = .pointer (some ⟨p, 0, none⟩) ∧ w.cell? ⟨p, 0, none⟩ = some v ∧ EnS w v L
theorem MR.stay0 {w w' : World} {pv : Value} {L : List En} (h : MR w pv L) (hs : Stay (fun _ => False) w w') : MR w' pv L := by
  rcases h with h | ⟨p, v, e, h1, h2⟩
  · exact .inl h
  · exact .inr ⟨p, v, e, hs.cell h1 (fun x => x), h2.stay0 hs⟩
theorem MR.nil (w : World) : MR w (.pointer none) [] := .inl ⟨rfl, rfl⟩
theorem MAt.mr {B : Nat → Prop} {w : World} {p : Nat} {L : List En} (h : MAt B w p L) : MR w (.pointer (some ⟨p, 0, none⟩)) L := by
  obtain ⟨v, h1, h2, _⟩ := h.ex
  exact .inr ⟨p, v, rfl, by rw [cell_of_row w p 0 _ _ _ h1]; rfl, h2.ens⟩
end Go.Proofs.YtljlfdhjolcnaaaGreat.Me

/-
  mem: New, the entries themselves, how keys are compared, where a key stands.
-/
namespace Go.Proofs.YtljlfdhjolcnaaaGreat.Me
open Go.RowKit Go.Maps
set_option maxRecDepth 100000
set_option linter.unusedVariables false

theorem new_any (w : World) : Calls Tryz.prog 27 #[] w fun e w' => e = .returned (.pointer (some ⟨w.heap.size, 0, none⟩)) ∧ MAt (fun k => k = w.heap.size) w' w.heap.size [] ∧ Stay (fun _ => False) w w' := by
  have h1 := heap_alloc_new w (.cells #[.slice none 0 0] 123)
  have h2 : Stay (fun _ => False) w (w.alloc (.cells #[.slice none 0 0] 123)) := Stay.alloc _ _
  have H1 := Lib.hid h1
  have H2 := Lib.hid h2
  clear h1 h2
  go_enter Tryz.func27, Tryz.ntmps27
  go_wp2
  go_ret
  exact ⟨rfl, ⟨⟨_, H1.out, EnO.nil _ _, fun k hk => by cases hk⟩, rfl, sorted_nil⟩, H2.out⟩

theorem all_any (w : World) (pv : Value) (L : List En) (h : MR w pv L) : Calls Tryz.prog 67 #[pv] w fun e w' => ∃ x, e = .returned x ∧ EnS w x L ∧ w = w' := by
  rcases h with ⟨rfl, rfl⟩ | ⟨p, v, rfl, hc, hs⟩
  · go_enter Tryz.func67, Tryz.ntmps67
    go_wp2
    go_ret
    exact ⟨_, rfl, EnS.nil w, rfl⟩
  · have HS := Lib.hid hs
    obtain ⟨a, c, rfl⟩ := hs.form
    clear hs
    go_enter Tryz.func67, Tryz.ntmps67
    go_wp2
    go_ret
    exact ⟨_, rfl, HS.out, rfl⟩

theorem run_cmp (w : World) (p q : List UInt8) : (callFunc 169 #[strV p, strV q]).run Tryz.prog w = .ok (.value (.int .i64 (Lib.compareBytes p q))) w := by
  rw [run_callFunc_extern Tryz.func169 (by kernel_rfl) (by kernel_rfl) (by kernel_rfl) (e := Extern.BytealgCompare.compare) (by kernel_rfl), Lib.run_compareString]
  rfl
theorem compare_in (w : World) (p q : List UInt8) : Calls Tryz.prog 155 #[strV p, strV q] w fun e w' => e = .returned (.int .i64 (Lib.compareBytes p q)) ∧ w = w' := by
  have hc := run_cmp w p q
  go_enter Tryz.func155, Tryz.ntmps155
  go_wp2_with (simp only [hc])
  go_ret
  exact ⟨rfl, rfl⟩
theorem compare_any (w : World) (p q : List UInt8) : Calls Tryz.prog 130 #[strV p, strV q] w fun e w' => e = .returned (.int .i64 (Lib.compareBytes p q)) ∧ w = w' := by
  go_enter Tryz.func130, Tryz.ntmps130
  go_wp2_with fail
  refine (compare_in w p q).mono ?_
  rintro e w' ⟨rfl, rfl⟩
  go_wp2
  go_ret
  exact ⟨rfl, rfl⟩
/-- The comparison that place hands on. -/
theorem cmp_any (w : World) (e : En) (k : List UInt8) : Calls Tryz.prog 129 #[enV e, strV k] w fun x w' => x = .returned (.int .i64 (Lib.compareBytes e.k k)) ∧ Stay (fun _ => False) w w' := by
  have H2 := Lib.hid (show Stay (fun _ => False) w (w.alloc (.cells (enC e).toArray 42)) from Stay.alloc _ _)
  unfold enV enC at *
  go_enter Tryz.func129, Tryz.ntmps129
  go_wp2_with fail
  refine (compare_any _ e.k k).mono ?_
  rintro x w' ⟨rfl, rfl⟩
  go_wp2
  go_ret
  exact ⟨rfl, H2.out⟩
end Go.Proofs.YtljlfdhjolcnaaaGreat.Me

/-
  mem: where a key stands.
-/
namespace Go.Proofs.YtljlfdhjolcnaaaGreat.Me
open Go.RowKit Go.Maps
set_option maxRecDepth 100000
set_option linter.unusedVariables false

/-- All that stand ahead of lo are ahead of the key, none that stand from hi on. -/
structure Between (L : List En) (k : List UInt8) (lo hi : Nat) : Prop where
  le : lo ≤ hi
  len : hi ≤ L.length
  l : ∀ t, t < lo → ∀ e, L[t]? = some e → ltB e.k k = true
  h : ∀ t, hi ≤ t → ∀ e, L[t]? = some e → ltB e.k k = false
theorem Between.start (L : List En) (k : List UInt8) : Between L k 0 L.length :=
  ⟨Nat.zero_le _, Nat.le_refl _, fun t ht => by omega, fun t ht e he => by have := (List.getElem?_eq_some_iff.1 he).1; omega⟩
theorem Between.up {L : List En} (hs : Sorted L) {k : List UInt8} {lo hi m : Nat} (b : Between L k lo hi) (h1 : lo ≤ m) (h2 : m < hi) {e : En} (he : L[m]? = some e) (hl : ltB e.k k = true) : Between L k (m + 1) hi :=
  ⟨h2, b.len, fun t ht x hx => by
    by_cases h : t = m
    · subst h
      rw [he] at hx
      cases hx
      exact hl
    · exact lt_trans (sorted_at hs (show t < m by omega) hx he) hl, b.h⟩
theorem Between.down {L : List En} (hs : Sorted L) {k : List UInt8} {lo hi m : Nat} (b : Between L k lo hi) (h1 : lo ≤ m) (h2 : m < hi) {e : En} (he : L[m]? = some e) (hl : ltB e.k k = false) : Between L k lo m :=
  ⟨h1, by have := b.len; omega, b.l, fun t ht x hx => by
    by_cases h : t = m
    · subst h
      rw [he] at hx
      cases hx
      exact hl
    · cases h3 : ltB x.k k with
      | false => rfl
      | true => rw [lt_trans (sorted_at hs (show m < t by omega) he hx) h3] at hl; cases hl⟩
theorem Between.end {L : List En} {k : List UInt8} {i : Nat} (b : Between L k i i) : posN L k = i :=
  posN_is k L i b.len b.l (fun e he => b.h i (Nat.le_refl _) e he)

set_option maxHeartbeats 4000000 in
theorem search_any (w : World) (x : Value) (L : List En) (k : List UInt8) (hx : EnS w x L) (hs : Sorted L) (hl : L.length ≤ 1000000) :
    Calls Tryz.prog 128 #[x, strV k, .func (.func 129) #[] #[]] w fun e w' => e = .returned (.tuple #[.int .i64 (posN L k : Int), .bool (hasB L k)]) ∧ Stay (fun _ => False) w w' := by
  have HX := Lib.hid hx
  have HS := Lib.hid hs
  obtain ⟨a0, c, rfl⟩ := hx.form
  have hcm : (L.length : Int) ≤ 1000000 := by omega
  clear hx hs hl
  go_enter Tryz.func128, Tryz.ntmps128
  go_wp2
  go_loopw [9, 10] (fun i j wr => ∃ lo hi : Nat, i = .int .i64 (lo : Int) ∧ j = .int .i64 (hi : Int) ∧ Hid (Between L k lo hi) ∧ Stay (fun _ => False) w wr) (fun i j _ => (intOf j).toNat - (intOf i).toNat)
  case atStart => exact ⟨0, L.length, rfl, rfl, Lib.hid (Between.start L k), Stay.refl _ _⟩
  case round =>
    obtain ⟨lo, hi, rfl, rfl, hb, hst⟩ := hrel
    have hle := hb.out.le
    have hlen := hb.out.len
    have HT := Lib.hid hst
    clear hst
    by_cases hlt : lo < hi
    · obtain ⟨e, he⟩ : ∃ e, L[(lo + hi) / 2]? = some e := ⟨_, List.getElem?_eq_getElem (by omega)⟩
      obtain ⟨g, o, rfl, _, hc⟩ := (HX.out.stay0 HT.out).at (by omega)
      obtain ⟨h0, h1, h2⟩ := hc _ e he
      have kl := Lib.hid (run_load_at h0 h1 h2)
      have HE := Lib.hid he
      clear he hc h0 h1 h2
      go_wp2_with (first
        | (refine wpList_load_run (by rfl) 42 (.tmp 27) rfl ⟨g, o + (lo + hi) / 2 * 3, none⟩ rfl _ kl.out ?_))
      refine (cmp_any _ e k).mono ?_
      rintro x w2 ⟨rfl, s2⟩
      have HT2 := Lib.hid (HT.out.trans s2)
      have hcl := cmp_lt e.k k
      clear s2
      generalize Lib.compareBytes e.k k = cv at *
      by_cases hcv : cv < 0
      · have hlt3 : ltB e.k k = true := by rw [← hcl]; exact decide_eq_true hcv
        have HB := Lib.hid (hb.out.up HS.out (m := (lo + hi) / 2) (by omega) (by omega) HE.out hlt3)
        clear hcl hlt3
        go_wp2
        refine ⟨⟨(lo + hi) / 2 + 1, hi, by go_num, rfl, HB, HT2.out⟩, by simp [intOf]; omega⟩
      · have hlt3 : ltB e.k k = false := by rw [← hcl]; exact decide_eq_false hcv
        have HB := Lib.hid (hb.out.down HS.out (m := (lo + hi) / 2) (by omega) (by omega) HE.out hlt3)
        clear hcl hlt3
        go_wp2
        refine ⟨⟨lo, (lo + hi) / 2, rfl, by go_num, HB, HT2.out⟩, by simp [intOf]; omega⟩
    · obtain rfl : hi = lo := by omega
      have HP := Lib.hid hb.out.end
      by_cases hn : hi < L.length
      · obtain ⟨e, he⟩ : ∃ e, L[hi]? = some e := ⟨_, List.getElem?_eq_getElem (by omega)⟩
        obtain ⟨g, o, rfl, _, hc⟩ := (HX.out.stay0 HT.out).at (by omega)
        obtain ⟨h0, h1, h2⟩ := hc _ e he
        have kl := Lib.hid (run_load_at h0 h1 h2)
        have HH := Lib.hid (show hasB L k = (e.k == k) by unfold hasB; rw [HP.out, he])
        clear he hc h0 h1 h2
        go_wp2_with (first
          | (refine wpList_load_run (by rfl) 42 (.tmp 43) rfl ⟨g, o + hi * 3, none⟩ rfl _ kl.out ?_))
        refine (cmp_any _ e k).mono ?_
        rintro x w2 ⟨rfl, s2⟩
        have HT2 := Lib.hid (HT.out.trans s2)
        have HC := Lib.hid (cmp_eq0 e.k k)
        clear s2
        generalize Lib.compareBytes e.k k = cv at *
        go_wp2
        go_ret2
        exact ⟨by rw [HP.out, HH.out, ← HC.out]; rfl, HT2.out⟩
      · have HH := Lib.hid (show hasB L k = false by unfold hasB; rw [HP.out, List.getElem?_eq_none (by omega)])
        go_wp2
        go_ret2
        exact ⟨by rw [HP.out, HH.out]; rfl, HT.out⟩

theorem place_any (w : World) (pv : Value) (L : List En) (k : List UInt8) (h : MR w pv L) (hs : Sorted L) (hl : L.length ≤ 1000000) :
    Calls Tryz.prog 97 #[pv, strV k] w fun e w' => e = .returned (.tuple #[.int .i64 (posN L k : Int), .bool (hasB L k)]) ∧ Stay (fun _ => False) w w' := by
  have H := Lib.hid h
  obtain ⟨p0, rfl⟩ : ∃ p0, pv = .pointer p0 := by
    rcases h with ⟨e, _⟩ | ⟨p, v, e, _⟩
    · exact ⟨_, e⟩
    · exact ⟨_, e⟩
  clear h
  go_enter Tryz.func97, Tryz.ntmps97
  go_wp2_with fail
  refine (all_any w _ L H.out).mono ?_
  rintro e w1 ⟨x, rfl, hx, rfl⟩
  have HX := Lib.hid hx
  obtain ⟨a0, c, rfl⟩ := hx.form
  clear hx
  go_wp2_with fail
  refine (search_any w _ L k HX.out hs hl).mono ?_
  rintro e w1 ⟨rfl, s1⟩
  go_wp2
  go_ret2
  exact ⟨rfl, s1⟩
end Go.Proofs.YtljlfdhjolcnaaaGreat.Me

/-
  mem: how many, how many bytes, a key's entry, all dropped.
-/
namespace Go.Proofs.YtljlfdhjolcnaaaGreat.Me
open Go.RowKit Go.Maps
set_option maxRecDepth 100000
set_option linter.unusedVariables false

theorem MR.ptr {w : World} {pv : Value} {L : List En} (h : MR w pv L) : ∃ p0, pv = .pointer p0 := by
  rcases h with ⟨e, _⟩ | ⟨p, v, e, _⟩
  · exact ⟨_, e⟩
  · exact ⟨_, e⟩
theorem alloc_en {ops : Array Oper} {rest : List Oper} {o : Oper} {a : Act} {w : World} {Q : Exit → Act → World → Prop} (hgd : o.guard = none) (ho : o.op = .alloc 42)
    (hn : wpList Tryz.prog ops Q rest (a.put o.dst (.pointer (some ⟨w.heap.size, 0, none⟩))) (w.alloc (.cells (enC ⟨[], [], false⟩).toArray 42))) : wpList Tryz.prog ops Q (o :: rest) a w :=
  wpList_alloc_at hgd _ ho zeroV (zero_en w) hn

theorem len_any (w : World) (pv : Value) (L : List En) (h : MR w pv L) :
    Calls Tryz.prog 31 #[pv] w fun e w' => e = .returned (.int .i64 (L.length : Int)) ∧ w = w' := by
  have H := Lib.hid h
  obtain ⟨p0, rfl⟩ := h.ptr
  clear h
  go_enter Tryz.func31, Tryz.ntmps31
  go_wp2_with fail
  refine (all_any w _ L H.out).mono ?_
  rintro e w1 ⟨x, rfl, hx, rfl⟩
  obtain ⟨a0, c, rfl⟩ := hx.form
  clear hx
  go_wp2
  go_ret
  exact ⟨rfl, rfl⟩

theorem clear_any {B : Nat → Prop} (w : World) (p : Nat) (L : List En) (h : MAt B w p L) :
    Calls Tryz.prog 35 #[.pointer (some ⟨p, 0, none⟩)] w fun e w' => e = .returned (.tuple #[]) ∧ MAt B w' p [] ∧ Stay B w w' := by
  have HB := Lib.hid h.bp
  obtain ⟨v, h1, h2, h3⟩ := h.ex
  have hc : w.cell? ⟨p, 0, none⟩ = some v := by rw [cell_of_row w p 0 _ _ _ h1]; rfl
  have hf := frozen_of_row w p 0 _ _ h1
  have H1 := Lib.hid (show (w.setCell ⟨p, 0, none⟩ (.slice none 0 0)).heap[p]? = some (.cells #[.slice none 0 0] 123 (0, 0)) from heap_setCell_same w p 0 _ _ _ h1)
  have H2 := Lib.hid (show Stay B w (w.setCell ⟨p, 0, none⟩ (.slice none 0 0)) from Stay.setCell _ _ _ HB.out)
  obtain ⟨a0, c, rfl⟩ := h2.form
  clear h h1 h2 h3
  go_enter Tryz.func35, Tryz.ntmps35
  go_wp2
  exact bodyPost_end (results_none rfl _ _ _) rfl ⟨rfl, ⟨⟨_, H1.out, EnO.nil _ _, fun k hk => by cases hk⟩, HB.out, sorted_nil⟩, H2.out⟩

end Go.Proofs.YtljlfdhjolcnaaaGreat.Me

/-
  mem: slices.Insert of one entry into entries of the call's own: at the end; in the middle, with room and without.
-/
namespace Go.Proofs.YtljlfdhjolcnaaaGreat.Me
open Go.RowKit Go.Maps
set_option maxRecDepth 100000
set_option linter.unusedVariables false

/-- A row shifted by one entry, and one laid in. -/
theorem splice_shift (L : List En) (R : List Value) (e : En) {i : Nat} (hi : i ≤ L.length) (hR : R.take (L.length * 3) = enRows L) (hl : (L.length + 1) * 3 ≤ R.length) :
    (splice (splice R ((i + 1) * 3) (enRows (L.drop i))) (i * 3) (enC e)).take ((L.length + 1) * 3) = enRows (L.take i ++ e :: L.drop i) := by
  have hT : R.take (i * 3) = enRows (L.take i) := by
    rw [← enRows_take L i hi, ← hR, List.take_take]
    congr 1
    omega
  have hD : (enRows (L.drop i)).length = (L.length - i) * 3 := by rw [length_enRows, List.length_drop]
  have h3 : (enC e).length = 3 := rfl
  unfold splice
  have e1 : (R.take ((i + 1) * 3) ++ (enRows (L.drop i) ++ R.drop ((i + 1) * 3 + (enRows (L.drop i)).length))).take (i * 3) = enRows (L.take i) := by
    rw [List.take_append_of_le_length (by rw [List.length_take]; omega), List.take_take, show min (i * 3) ((i + 1) * 3) = i * 3 by omega, hT]
  have e2 : (R.take ((i + 1) * 3) ++ (enRows (L.drop i) ++ R.drop ((i + 1) * 3 + (enRows (L.drop i)).length))).drop (i * 3 + (enC e).length) = enRows (L.drop i) ++ R.drop ((i + 1) * 3 + (enRows (L.drop i)).length) := by
    rw [List.drop_append, List.drop_eq_nil_of_le (by rw [List.length_take]; omega), List.nil_append, List.length_take, show i * 3 + (enC e).length - min ((i + 1) * 3) R.length = 0 by omega, List.drop_zero]
  rw [e1, e2, enRows_append, enRows_cons, ← List.append_assoc (enC e), ← List.append_assoc, List.take_append_of_le_length]
  · rw [List.take_of_length_le]
    rw [List.length_append, List.length_append, length_enRows, hD, h3, List.length_take]
    omega
  · rw [List.length_append, List.length_append, length_enRows, hD, h3, List.length_take]
    omega
/-- A row whose begin stands, one laid in behind it, and then the rest. -/
theorem splice_fill (L : List En) (R : List Value) (e : En) {i : Nat} (hi : i ≤ L.length) (hR : R.take (i * 3) = enRows (L.take i)) (hl : (L.length + 1) * 3 ≤ R.length) :
    (splice (splice R (i * 3) (enC e)) ((i + 1) * 3) (enRows (L.drop i))).take ((L.length + 1) * 3) = enRows (L.take i ++ e :: L.drop i) := by
  have hD : (enRows (L.drop i)).length = (L.length - i) * 3 := by rw [length_enRows, List.length_drop]
  have h3 : (enC e).length = 3 := rfl
  unfold splice
  have e1 : (R.take (i * 3) ++ (enC e ++ R.drop (i * 3 + (enC e).length))).take ((i + 1) * 3) = enRows (L.take i) ++ enC e := by
    rw [hR, ← List.append_assoc, List.take_append_of_le_length (by rw [List.length_append, length_enRows, h3, List.length_take]; omega), List.take_of_length_le (by rw [List.length_append, length_enRows, h3, List.length_take]; omega)]
  rw [e1, enRows_append, enRows_cons, ← List.append_assoc (enRows (L.take i) ++ enC e), List.take_append_of_le_length]
  · rw [List.take_of_length_le, List.append_assoc]
    rw [List.length_append, List.length_append, length_enRows, hD, h3, List.length_take]
    omega
  · rw [List.length_append, List.length_append, length_enRows, hD, h3, List.length_take]
    omega

theorem run_copy_en (w : World) (ty : TypeId) (g o dLen dCap : Nat) (ad : Addr) (sLen sCap : Nat) (cur : List Value) (cs : List Value)
    (hg : w.heap[g]? = some (.cells cur.toArray 42 (0, 0))) (hn : cs.length = Nat.min sLen dLen * 3)
    (hsrc : ∀ j v, cs[j]? = some v → w.cell? (ad.add j) = some v) (hfit : o + cs.length ≤ cur.length) (h1 : ∀ v ∈ cs, v.oneCell' = true) :
    (Builtin.copy_ #[34, 34] ty #[.slice (some ⟨g, o, none⟩) dLen dCap, .slice (some ad) sLen sCap]).run Tryz.prog w =
      .ok (goInt (Nat.min sLen dLen)) (w.setRow g (splice cur o cs).toArray) := by
  have := run_copy_sized (P := Tryz.prog) w 34 34 ty 42 3 g o dLen dCap ad sLen sCap cur.toArray 42 cs Tryz.underlying34 size_en hg hn hsrc (by simpa using hfit) h1
  simpa using this
section
variable {w : World} {o : Oper} {a : Act} {Q : Exit → Act → World → Prop} {ops : Array Oper}
theorem wpList_copy_en {rest : List Oper} (hgd : o.guard = none) (d s : Operand) (ho : o.op = .call { callee := .builtin .copy, args := #[d, s], argTypes := #[34, 34] })
    (g off dLen dCap : Nat) (ad : Addr) (sLen sCap : Nat) (hd : a.eval d = .slice (some ⟨g, off, none⟩) dLen dCap) (hs : a.eval s = .slice (some ad) sLen sCap) (cur cs : List Value)
    (hg : w.heap[g]? = some (.cells cur.toArray 42 (0, 0))) (hn : cs.length = Nat.min sLen dLen * 3)
    (hsrc : ∀ j v, cs[j]? = some v → w.cell? (ad.add j) = some v) (hfit : off + cs.length ≤ cur.length) (h1 : ∀ v ∈ cs, v.oneCell' = true)
    (h : ∀ w', Hid (w'.heap[g]? = some (.cells (splice cur off cs).toArray 42 (0, 0))) → Hid (Stay (· = g) w w') → wpList Tryz.prog ops Q rest (a.put o.dst (goInt (Nat.min sLen dLen))) w') : wpList Tryz.prog ops Q (o :: rest) a w :=
  wpList_plain hgd fun _ hK => by
    have hrun := run_copy_en w o.type g off dLen dCap ad sLen sCap cur cs hg hn hsrc hfit h1
    unfold Oper.wp execOp
    simp only [ho, resolve, invoke, builtin, Sem.run_bind, Sem.run_pure, Result.andThen_ok, List.map_toArray, List.map_cons, List.map_nil, hd, hs, hrun]
    exact hK _ _ (h _ (show _ = _ from setRow_heap w g _ _ _ _ hg) (Stay.setRow (X := fun k => k = g) w g _ rfl))
theorem step_copy_en {K : Act → World → Prop} {E : Prop} (hgd : o.guard = none) (d s : Operand) (ho : o.op = .call { callee := .builtin .copy, args := #[d, s], argTypes := #[34, 34] })
    (g off dLen dCap : Nat) (ad : Addr) (sLen sCap : Nat) (hd : a.eval d = .slice (some ⟨g, off, none⟩) dLen dCap) (hs : a.eval s = .slice (some ad) sLen sCap) (cur cs : List Value)
    (hg : w.heap[g]? = some (.cells cur.toArray 42 (0, 0))) (hn : cs.length = Nat.min sLen dLen * 3)
    (hsrc : ∀ j v, cs[j]? = some v → w.cell? (ad.add j) = some v) (hfit : off + cs.length ≤ cur.length) (h1 : ∀ v ∈ cs, v.oneCell' = true)
    (h : ∀ w', Hid (w'.heap[g]? = some (.cells (splice cur off cs).toArray 42 (0, 0))) → Hid (Stay (· = g) w w') → K (a.put o.dst (goInt (Nat.min sLen dLen))) w') : if Region.wanted o (yielded ops a.tmps) = true then Oper.wp Tryz.prog o a w K Q else E := by
  have hw : Region.wanted o (yielded ops a.tmps) = true := by simp [Region.wanted, hgd]
  rw [if_pos hw]
  have hrun := run_copy_en w o.type g off dLen dCap ad sLen sCap cur cs hg hn hsrc hfit h1
  unfold Oper.wp execOp
  simp only [ho, resolve, invoke, builtin, Sem.run_bind, Sem.run_pure, Result.andThen_ok, List.map_toArray, List.map_cons, List.map_nil, hd, hs, hrun]
  exact h _ (show _ = _ from setRow_heap w g _ _ _ _ hg) (Stay.setRow (X := fun k => k = g) w g _ rfl)
end

theorem shape_row {w : World} {g : Nat} {cs : Array Value} {t : TypeId} {fr : Nat × Nat} (h : w.heap[g]? = some (.cells cs t fr)) : w.shape? g = some (t, cs.size) := by
  unfold World.shape?
  rw [h]

/-- What Insert hands out. -/
structure Ins (w w' : World) (v v' : Value) (M : List En) : Prop where
  own : EnO 0 w' v' M
  stay : Stay (fun k => v.ownBlock = some k) w w'
  blk : v'.ownBlock = v.ownBlock ∨ ∃ k, v'.ownBlock = some k ∧ w.heap.size ≤ k

set_option maxHeartbeats 4000000 in
theorem insert_end (w : World) (v : Value) (L : List En) (e : En) (g : Nat) (ho : EnO 0 w v L) (hb : Box w g e) (hl : L.length ≤ 1000000) :
    Calls Tryz.prog 98 #[v, .int .i64 (L.length : Int), .slice (some ⟨g, 0, none⟩) 1 1] w fun x w' => ∃ v', x = .returned v' ∧ Ins w w' v v' (L ++ [e]) := by
  have HO := Lib.hid ho
  have HB := Lib.hid hb
  obtain ⟨a0, c, rfl, hnc, hcm, hn, _⟩ := ho.ens
  clear ho hb
  cases a0 with
  | none =>
    obtain rfl := hn rfl
    have hL : L = [] := List.eq_nil_of_length_eq_zero (by omega)
    subst hL
    go_enter Tryz.func98, Tryz.ntmps98
    go_wp2_with (at_builtin; refine wpList_append_en rfl (.tmp 23) (.tmp 24) 34 rfl Tryz.underlying34 rfl rfl HO.out (HB.out.one 1 (by decide) (by decide)) (by simp) (Nat.zero_le _) ?_; intro v' w1 hown hgr hnn)
    have HI := Lib.hid (show Ins w w1 (.slice none 0 0) v' ([] ++ [e]) from ⟨hown, hgr, hnn.imp id (fun h => ⟨_, h, Nat.le_refl _⟩)⟩)
    clear hown hgr hnn
    go_wp2
    go_ret
    exact ⟨_, rfl, HI.out⟩
  | some ad =>
    clear hn
    by_cases hc : c = L.length
    · subst hc
      go_enter Tryz.func98, Tryz.ntmps98
      go_wp2_with (at_builtin; refine wpList_append_en rfl (.tmp 23) (.tmp 24) 34 rfl Tryz.underlying34 rfl rfl HO.out (HB.out.one 1 (by decide) (by decide)) (by simp; omega) (Nat.zero_le _) ?_; intro v' w1 hown hgr hnn; have HI := Lib.hid (Ins.mk (M := L ++ [e]) hown hgr (hnn.imp id (fun h => ⟨_, h, Nat.le_refl _⟩))); clear hown hgr hnn)
      go_ret
      exact ⟨_, rfl, HI.out⟩
    · go_enter Tryz.func98, Tryz.ntmps98
      go_wp2_with (at_builtin; refine wpList_append_en rfl (.tmp 23) (.tmp 24) 34 rfl Tryz.underlying34 rfl rfl HO.out (HB.out.one 1 (by decide) (by decide)) (by simp; omega) (Nat.zero_le _) ?_; intro v' w1 hown hgr hnn; have HI := Lib.hid (Ins.mk (M := L ++ [e]) hown hgr (hnn.imp id (fun h => ⟨_, h, Nat.le_refl _⟩))); clear hown hgr hnn)
      go_ret
      exact ⟨_, rfl, HI.out⟩

set_option maxHeartbeats 4000000 in
/-- In the middle, where there is room: all that stands behind goes one place up. -/
theorem insert_shift (w : World) (b c i : Nat) (L : List En) (e : En) (g : Nat) (ho : EnO 0 w (.slice (some ⟨b, 0, none⟩) L.length c) L) (hb : Box w g e) (hne : b ≠ g) (hi : i < L.length) (hc : L.length + 1 ≤ c) (hl : L.length ≤ 1000000) :
    Calls Tryz.prog 98 #[.slice (some ⟨b, 0, none⟩) L.length c, .int .i64 (i : Int), .slice (some ⟨g, 0, none⟩) 1 1] w fun x w' => ∃ v', x = .returned v' ∧ Ins w w' (.slice (some ⟨b, 0, none⟩) L.length c) v' (L.take i ++ e :: L.drop i) := by
  have HO := Lib.hid ho
  have HB := Lib.hid hb
  rcases ho.2 with ⟨e0, _⟩ | ⟨b', cap, cur, e0, _, hg, hnc, hcm, hcs, hct⟩
  · cases e0
  cases e0
  have hcl : cur.toList.length = c * 3 := by rw [Array.length_toList]; exact hcs
  obtain ⟨R, hR⟩ : ∃ R, R = cur.toList := ⟨_, rfl⟩
  have hg' : w.heap[b]? = some (.cells R.toArray 42 (0, 0)) := by rw [hR]; simpa using hg
  rw [← hR] at hcl hct
  have hov : ∀ lb cb, (callFunc 131 #[.slice (some ⟨g, 0, none⟩) 1 1, .slice (some ⟨b, (i + 1) * 3, none⟩) lb cb]).run Tryz.prog w = .ok (.value (.bool false)) w := fun lb cb => by
    rw [run_callFunc_extern Tryz.func131 (by kernel_rfl) (by kernel_rfl) (by kernel_rfl) (e := Extern.SlicesOverlaps.overlaps #[34, 34] #[4]) (by kernel_rfl),
      Lib.run_overlaps_apart w 34 4 42 Tryz.underlying34 3 sizeOf_en ⟨g, 0, none⟩ ⟨b, (i + 1) * 3, none⟩ 1 1 lb cb (fun e => hne e.symm) 42 42 3 R.length (shape_row hb) (by rw [shape_row hg', List.size_toArray]) (by omega) (hb.fr 0) (hb.fr 3)]
    rfl
  have HG := Lib.hid hg'
  have HCL := Lib.hid hcl
  have HCT := Lib.hid hct
  have hcc : c ≤ 9223372036854775807 := by unfold maxLen at hcm; omega
  have HSRC := Lib.hid (show ∀ j u, (enRows (L.drop i))[j]? = some u → w.cell? ((⟨b, i * 3, none⟩ : Addr).add j) = some u from fun j u hu => by
    have hj := (List.getElem?_eq_some_iff.1 hu).1
    rw [length_enRows, List.length_drop] at hj
    rw [add_at, cell_of_row w b _ _ _ _ hg', List.getElem?_toArray]
    rw [← enRows_drop L i (by omega), ← hct, List.getElem?_drop, List.getElem?_take] at hu
    split at hu
    · exact hu
    · cases hu)
  have HDL := Lib.hid (show (enRows (L.drop i)).length = (L.length - i) * 3 by rw [length_enRows, List.length_drop])
  have HFIN := Lib.hid (splice_shift L R e (i := i) (by omega) hct (by rw [hcl]; omega))
  have hci : ¬ c = i := by omega
  have hci1 : ¬ c = i + 1 := by omega
  have hw1 : IntKind.i64.wrap ((i : Int) + 1) = (i : Int) + 1 := by rw [IntKind.wrap_i64]; omega
  have hb1 : (0 : Int) ≤ (i : Int) + 1 := by omega
  have htn : ((i : Int) + 1).toNat = i + 1 := by omega
  have hb3 : (i : Int) + 1 ≤ (L.length : Int) + 1 := by omega
  have hb4 : (i : Int) ≤ (L.length : Int) + 1 := by omega
  have HB1 := Lib.hid (fun j u (hu : (enC e)[j]? = some u) => hb.c hu)
  obtain ⟨D, hD⟩ : ∃ D, D = enRows (L.drop i) := ⟨_, rfl⟩
  have HD1 := Lib.hid (show ∀ u ∈ D, u.oneCell' = true by rw [hD]; exact one_enRows _)
  rw [← hD] at HSRC HDL HFIN
  clear hg hg' hR hcl hct hcs ho hb hD hcm
  go_enter Tryz.func98, Tryz.ntmps98
  go_wp2_with (simp only [hov])
  go_region_law (refine step_copy_en rfl (.tmp 73) (.tmp 76) rfl b ((i + 1) * 3) (L.length + 1 - (i + 1)) (c - (i + 1)) ⟨b, i * 3, none⟩ (L.length + 1 - i) (c - i) (by simp [Act.eval, Act.put]) (by simp [Act.eval, Act.put]) R D HG.out (by rw [HDL.out]; show _ = min _ _ * 3; omega) HSRC.out (by rw [HDL.out, HCL.out]; omega) HD1.out ?_; intro w1 hg1 hs1)
  have hR1 : (splice R ((i + 1) * 3) D).length = c * 3 := by rw [length_splice _ _ _ (by rw [HDL.out, HCL.out]; omega), HCL.out]
  have HR1 := Lib.hid hR1
  have HS1 := Lib.hid (show Stay (fun k => k = b) w w1 from Stay.drew.trans hs1.out)
  have HBW := Lib.hid (show Box w1 g e from HB.out.stay HS1.out (fun (h : g = b) => hne h.symm))
  clear hR1
  obtain ⟨R1, hR1⟩ : ∃ R1, R1 = splice R ((i + 1) * 3) D := ⟨_, rfl⟩
  rw [← hR1] at hg1 HFIN HR1
  clear hR1
  go_wp2_with (refine wpList_copy_en rfl (.tmp 80) (.tmp 81) rfl b (i * 3) (L.length + 1 - i) (c - i) ⟨g, 0, none⟩ 1 1 rfl rfl R1 (enC e) hg1.out (by show 3 = min _ _ * 3; omega) (fun j u hu => by rw [add_at, Nat.zero_add]; exact HBW.out.c hu) (by rw [HR1.out]; show i * 3 + 3 ≤ _; omega) (one_enC e) ?_; intro w2 hg2 hs2)
  go_ret
  refine ⟨_, rfl, ⟨?_, ?_, .inl rfl⟩⟩
  · have hM : (L.take i ++ e :: L.drop i).length = L.length + 1 := by rw [List.length_append, List.length_cons, List.length_take, List.length_drop]; omega
    refine ⟨by rw [length_enRows], .inr ⟨b, c, (splice R1 (i * 3) (enC e)).toArray, by rw [hM]; rfl, Nat.zero_le _, hg2.out, by rw [hM]; omega, by unfold maxLen; omega, ?_, ?_⟩⟩
    · rw [List.size_toArray, length_splice _ _ _ (by rw [HR1.out]; show i * 3 + 3 ≤ _; omega), HR1.out]
    · rw [hM]
      exact HFIN.out
  · have h1 := HS1.out
    have h2 : Stay (fun k => k = b) w1 w2 := hs2.out
    exact (h1.trans h2).mono (fun k hk => by rw [hk]; rfl)
end Go.Proofs.YtljlfdhjolcnaaaGreat.Me

/-
  mem: slices.Insert of one entry in the middle, where there is no room.
-/
namespace Go.Proofs.YtljlfdhjolcnaaaGreat.Me
open Go.RowKit Go.Maps
set_option maxRecDepth 100000
set_option linter.unusedVariables false

theorem length_zeros (k : Nat) : (Builtin.zeroCells zeroV.cells k).size = k * 3 := by
  unfold Builtin.zeroCells
  rw [Array.size_map, Array.size_range]
  rfl

set_option maxHeartbeats 4000000 in
theorem insert_grow (w : World) (b c i : Nat) (L : List En) (e : En) (g : Nat) (ho : EnO 0 w (.slice (some ⟨b, 0, none⟩) L.length c) L) (hb : Box w g e) (hi : i < L.length) (hc : c < L.length + 1) (hl : L.length ≤ 1000000) :
    Calls Tryz.prog 98 #[.slice (some ⟨b, 0, none⟩) L.length c, .int .i64 (i : Int), .slice (some ⟨g, 0, none⟩) 1 1] w fun x w' => ∃ v', x = .returned v' ∧ Ins w w' (.slice (some ⟨b, 0, none⟩) L.length c) v' (L.take i ++ e :: L.drop i) := by
  obtain ⟨i0, hi0, hz0, hzs, hzb⟩ := info_parts info_en
  have HB := Lib.hid hb
  have hE := ho.ens
  have hnc : L.length ≤ c := by
    obtain ⟨_, _, e0, h1, _⟩ := hE
    cases e0
    exact h1
  obtain rfl : c = L.length := by omega
  obtain ⟨b', o, e0, hbw, hcs⟩ := hE.at (by omega)
  cases e0
  have hrows : ∀ j u, (enRows L)[j]? = some u → w.cell? ⟨b, 0 + j, none⟩ = some u := enRows_all (fun i e he j u hu => by
    obtain ⟨h0, h1, h2⟩ := hcs i e he
    match j, hu with
    | 0, hu => cases hu; exact h0
    | 1, hu => cases hu; exact h1
    | 2, hu => cases hu; exact h2)
  have hold : (Builtin.firstCells i0.size i (.slice (some ⟨b, 0, none⟩) i L.length)).run Tryz.prog w.drew = .ok (enRows (L.take i)).toArray w.drew := by
    rw [hzs]
    exact run_firstCells_some w.drew 3 i ⟨b, 0, none⟩ i L.length (enRows (L.take i)) (by rw [length_enRows, List.length_take]; omega) (fun j v hj => by
      rw [add_at]
      rw [← enRows_take L i (by omega), List.getElem?_take] at hj
      split at hj
      · exact hrows j v hj
      · cases hj)
  obtain ⟨G, hG⟩ : ∃ G, G = grownCap w (L.length + 1) L.length 42 := ⟨_, rfl⟩
  obtain ⟨R, hR⟩ : ∃ R : List Value, R = enRows (L.take i) ++ (Builtin.zeroCells zeroV.cells (L.length + 1 - i)).toList ++ (Builtin.zeroCells zeroV.cells (G - (L.length + 1))).toList := ⟨_, rfl⟩
  have hrz : ∀ ty, (Builtin.append_ #[34, 3] ty #[.slice (some ⟨b, 0, none⟩) i L.length, .int .i64 ((L.length : Int) + 1 - (i : Int))]).run Tryz.prog w =
      .ok (.slice (some ⟨w.heap.size, 0, none⟩) (L.length + 1) G) (w.drew.alloc (.cells R.toArray 42)) := fun ty => by
    have h := Lib.run_append_grow_zeros w 34 3 ty 42 i0 _ .i64 .i64 Tryz.underlying34 Tryz.underlying3 hi0 hz0 (some ⟨b, 0, none⟩) i L.length (enRows (L.take i)) hold (L.length + 1 - i) (by omega) (by omega) (by omega) (by omega) (by rw [hzb]; omega) (by rw [hzb, show i + (L.length + 1 - i) = L.length + 1 by omega]; exact growslice_fits hc (by omega))
    rw [show i + (L.length + 1 - i) = L.length + 1 by omega, ← hG] at h
    rw [show (L.length : Int) + 1 - (i : Int) = ((L.length + 1 - i : Nat) : Int) by omega, h]
    congr 4
    rw [hR]
    simp
  have hGn : L.length + 1 ≤ G := by rw [hG]; exact grownCap_ge w _ _ _
  have hGm : G ≤ maxLen := by rw [hG]; exact grownCap_le_maxLen w _ _ _ (by unfold maxLen; omega)
  have hG63 : G ≤ 9223372036854775807 := by unfold maxLen at hGm; omega
  have hRl : R.length = G * 3 := by
    have hz : ∀ k, (Builtin.zeroCells zeroV.cells k).toList.length = k * 3 := fun k => by rw [Array.length_toList]; exact length_zeros k
    rw [hR, List.length_append, List.length_append, hz, hz, length_enRows, List.length_take]
    omega
  have hRt : R.take (i * 3) = enRows (L.take i) := by
    rw [hR, List.append_assoc, List.take_append_of_le_length (by rw [length_enRows, List.length_take]; omega), List.take_of_length_le (by rw [length_enRows, List.length_take]; omega)]
  obtain ⟨D, hD⟩ : ∃ D, D = enRows (L.drop i) := ⟨_, rfl⟩
  have hfin := splice_fill L R e (i := i) (by omega) hRt (by rw [hRl]; omega)
  have hdl : D.length = (L.length - i) * 3 := by rw [hD, length_enRows, List.length_drop]
  have hd1 : ∀ u ∈ D, u.oneCell' = true := by rw [hD]; exact one_enRows _
  have hsrc : ∀ j u, D[j]? = some u → w.cell? ((⟨b, i * 3, none⟩ : Addr).add j) = some u := fun j u hu => by
    rw [hD, ← enRows_drop L i (by omega), List.getElem?_drop] at hu
    rw [add_at]
    have := hrows _ u hu
    rw [Nat.zero_add] at this
    exact this
  rw [← hD] at hfin
  have H1 := heap_alloc_new w.drew (.cells R.toArray 42)
  have hs1 : Stay (fun _ => False) w (w.drew.alloc (.cells R.toArray 42)) := Stay.drew.trans (Stay.alloc _ _)
  obtain ⟨W1, hW1⟩ : ∃ W1, W1 = w.drew.alloc (.cells R.toArray 42) := ⟨_, rfl⟩
  rw [← hW1] at hrz H1 hs1
  have HG1 := Lib.hid (show W1.heap[w.heap.size]? = some (.cells R.toArray 42 (0, 0)) from H1)
  have HS1 := Lib.hid hs1
  have HRZ := Lib.hid hrz
  have HFIN := Lib.hid hfin
  have HDL := Lib.hid hdl
  have HD1 := Lib.hid hd1
  have HSRC := Lib.hid hsrc
  have HRL := Lib.hid hRl
  have HBW := Lib.hid (HB.out.stay0 hs1)
  have HBL := Lib.hid hb.lt
  have HGM := Lib.hid hGm
  have HBB := Lib.hid hbw
  have hci : ¬ L.length = i := by omega
  have hGi : ¬ G = i := by omega
  have hGi1 : ¬ G = i + 1 := by omega
  have hw1 : IntKind.i64.wrap ((i : Int) + 1) = (i : Int) + 1 := by rw [IntKind.wrap_i64]; omega
  have hb1 : (0 : Int) ≤ (i : Int) + 1 := by omega
  have htn : ((i : Int) + 1).toNat = i + 1 := by omega
  have hb3 : (i : Int) + 1 ≤ (L.length : Int) + 1 := by omega
  have hb4 : (i : Int) ≤ (L.length : Int) := by omega
  clear ho hb hE hcs hrows hold hG hR hrz hGm hRl hRt hD hfin hdl hd1 hsrc H1 hs1 hW1 hi0 hz0 hzs hzb hbw
  go_enter Tryz.func98, Tryz.ntmps98
  go_wp2_with (first
    | (at_builtin; refine Lib.wpList_append_run _ rfl _ _ _ _ rfl _ _ rfl rfl _ _ (HRZ.out _) ?_)
    | (refine wpList_copy_en rfl (.tmp 43) (.tmp 44) rfl w.heap.size (i * 3) (L.length + 1 - i) (G - i) ⟨g, 0, none⟩ 1 1 rfl rfl R (enC e) HG1.out (by show 3 = min _ _ * 3; omega) (fun j u hu => by rw [add_at, Nat.zero_add]; exact HBW.out.c hu) (by rw [HRL.out]; show i * 3 + 3 ≤ _; omega) (one_enC e) ?_; intro w2 hg2 hs2))
  have HS2 := Lib.hid (show Stay (fun k => k = w.heap.size) W1 w2 from hs2.out)
  have HR2 := Lib.hid (show (splice R (i * 3) (enC e)).length = G * 3 by rw [length_splice _ _ _ (by rw [HRL.out]; show i * 3 + 3 ≤ _; omega), HRL.out])
  have HSR2 := Lib.hid (show ∀ j u, D[j]? = some u → w2.cell? ((⟨b, i * 3, none⟩ : Addr).add j) = some u from fun j u hu => by
    have := HSRC.out j u hu
    rw [add_at] at this ⊢
    exact HS2.out.cell (HS1.out.cell this (fun x => x)) (fun (h : b = w.heap.size) => by have := HBB.out; omega))
  obtain ⟨R2, hR2⟩ : ∃ R2, R2 = splice R (i * 3) (enC e) := ⟨_, rfl⟩
  rw [← hR2] at hg2 HFIN HR2
  clear hR2 hs2
  go_region_law (refine step_copy_en rfl (.tmp 50) (.tmp 53) rfl w.heap.size ((i + 1) * 3) (L.length + 1 - (i + 1)) (G - (i + 1)) ⟨b, i * 3, none⟩ (L.length - i) (L.length - i) (by simp [Act.eval, Act.put]) (by simp [Act.eval, Act.put]) R2 D hg2.out (by rw [HDL.out]; show _ = min _ _ * 3; omega) HSR2.out (by rw [HDL.out, HR2.out]; omega) HD1.out ?_; intro w3 hg3 hs3)
  have HS3 := Lib.hid (show Stay (fun k => k = w.heap.size) w2 w3 from (Stay.drew.trans hs3.out))
  clear hs3
  go_wp2
  go_ret
  refine ⟨_, rfl, ⟨?_, ?_, .inr ⟨w.heap.size, rfl, Nat.le_refl _⟩⟩⟩
  · have hM : (L.take i ++ e :: L.drop i).length = L.length + 1 := by rw [List.length_append, List.length_cons, List.length_take, List.length_drop]; omega
    refine ⟨by rw [length_enRows], .inr ⟨w.heap.size, G, (splice R2 ((i + 1) * 3) D).toArray, by rw [hM]; rfl, Nat.zero_le _, hg3.out, by rw [hM]; omega, HGM.out, ?_, ?_⟩⟩
    · rw [List.size_toArray, length_splice _ _ _ (by rw [HDL.out, HR2.out]; omega), HR2.out]
    · rw [hM]
      exact HFIN.out
  · exact (stay_seal ((HS1.out.mono (Y := fun k => k = w.heap.size) (fun _ x => x.elim)).trans (HS2.out.trans HS3.out)) (fun k hk => by have hk' : k = w.heap.size := hk; omega)).mono (fun _ x => x.elim)

/-- One entry inserted at any place. -/
theorem insert_any (w : World) (v : Value) (i : Nat) (L : List En) (e : En) (g : Nat) (ho : EnO 0 w v L) (hb : Box w g e) (hne : v.ownBlock ≠ some g) (hi : i ≤ L.length) (hl : L.length ≤ 1000000) :
    Calls Tryz.prog 98 #[v, .int .i64 (i : Int), .slice (some ⟨g, 0, none⟩) 1 1] w fun x w' => ∃ v', x = .returned v' ∧ Ins w w' v v' (L.take i ++ e :: L.drop i) := by
  by_cases h : i = L.length
  · subst h
    rw [List.take_length, List.drop_length]
    exact insert_end w v L e g ho hb hl
  · rcases id ho.2 with ⟨_, e0⟩ | ⟨b, c, cur, rfl, _⟩
    · omega
    · by_cases hc : L.length + 1 ≤ c
      · exact insert_shift w b c i L e g ho hb (fun h => hne (by rw [h]; rfl)) (by omega) hc hl
      · exact insert_grow w b c i L e g ho hb (by omega) (by omega) hl
end Go.Proofs.YtljlfdhjolcnaaaGreat.Me

/-
  mem: an entry laid in.
-/
namespace Go.Proofs.YtljlfdhjolcnaaaGreat.Me
open Go.RowKit Go.Maps
set_option maxRecDepth 100000
set_option linter.unusedVariables false

/-- What turned of a Mem: its block, or its entries'. -/
def Own (p : Nat) (v : Value) (k : Nat) : Prop := k = p ∨ v.ownBlock = some k

/-- What Put leaves. -/
structure Putd (B : Nat → Prop) (w w' : World) (p : Nat) (M : List En) : Prop where
  m : MAt (fun k => B k ∨ w.heap.size ≤ k) w' p M
  s : Stay B w w'

theorem splice_put (L : List En) (R : List Value) (e : En) {i : Nat} (hi : i < L.length) (hR : R.take (L.length * 3) = enRows L) :
    (splice R (i * 3) (enC e)).take (L.length * 3) = enRows (L.take i ++ e :: L.drop (i + 1)) := by
  have h3 : (enC e).length = 3 := rfl
  have hl := length_enRows L
  obtain ⟨T, hT⟩ : ∃ T, R = enRows L ++ T := ⟨R.drop (L.length * 3), by rw [← hR, List.take_append_drop]⟩
  subst hT
  have e1 : splice (enRows L ++ T) (i * 3) (enC e) = enRows (L.take i ++ e :: L.drop (i + 1)) ++ T := by
    unfold splice
    rw [List.take_append_of_le_length (by omega), enRows_take L i (by omega), h3, show i * 3 + 3 = (i + 1) * 3 by omega, List.drop_append_of_le_length (by omega), enRows_drop L (i + 1) (by omega), enRows_append, enRows_cons]
    simp only [List.append_assoc]
  have e2 : (enRows (L.take i ++ e :: L.drop (i + 1))).length = L.length * 3 := by
    rw [length_enRows, List.length_append, List.length_cons, List.length_take, List.length_drop]
    omega
  rw [e1, List.take_append_of_le_length (by omega), List.take_of_length_le (by omega)]
theorem run_store_en {w : World} {b o : Nat} {S : List Value} {e : En} (hg : w.heap[b]? = some (.cells S.toArray 42 (0, 0))) (hf : o + 3 ≤ S.length) :
    (storeVar 42 ⟨b, o, none⟩ (enV e)).run Tryz.prog w = .ok () (w.setRow b (splice S o (enC e)).toArray) :=
  run_storeVar_mid (P := Tryz.prog) w b o 42 42 S (enC e) hg size_en hf (one_enC e)

theorem step_load_run {P : Program} {ops : Array Oper} {Q : Exit → Act → World → Prop} {o : Oper} {a : Act} {w : World} {K : Act → World → Prop} {E : Prop} (hw : Region.wanted o (yielded ops a.tmps) = true) (ty : TypeId) (x : Operand) (ho : o.op = .load ty x) (ad : Addr) (hx : a.eval x = .pointer (some ad)) (v : Value)
    (hl : (loadVar ty ad).run P w = .ok v w) (h : K (a.put o.dst v) w) : if Region.wanted o (yielded ops a.tmps) = true then Oper.wp P o a w K Q else E := by
  rw [if_pos hw]
  unfold Oper.wp execOp
  simp only [ho, hx, Instr.loadAt, Instr.sureAddr, Sem.run_bind, Sem.run_pure, Result.andThen_ok, hl]
  exact h
/-- A slice of one entry, made. -/
theorem step_one_en {ops : Array Oper} {Q : Exit → Act → World → Prop} {o : Oper} {a : Act} {w : World} {K : Act → World → Prop} {E : Prop} (hw : Region.wanted o (yielded ops a.tmps) = true) (x : Operand) (ho : o.op = .buildSlice 34 1 #[(0, x)]) (e : En) (hx : a.eval x = enV e)
    (h : K (a.put o.dst (.slice (some ⟨w.heap.size, 0, none⟩) 1 1)) (w.alloc (.cells (enC e).toArray 42))) : if Region.wanted o (yielded ops a.tmps) = true then Oper.wp Tryz.prog o a w K Q else E := by
  obtain ⟨i0, hi0, hz0, hzs, hzb⟩ := info_parts info_en
  rw [if_pos hw]
  refine wp_buildSlice 34 42 1 #[(0, x)] ho (enC e).toArray i0 zeroV Tryz.underlying34 hi0 hz0 (by rw [hzs]; decide) (by rw [hzs]; decide) ?_ h
  rw [hzs]
  simp only [List.map_toArray, List.map_cons, List.map_nil, hx]
  simp [Instr.fill, enV, enC, zeroV, Value.cells, Array.range]
  apply Array.ext_getElem?
  intro j
  match j with
  | 0 => simp
  | 1 => simp
  | 2 => simp
  | j + 3 => simp
theorem run_load_slice {w : World} {p : Nat} {v : Value} (hc : w.cell? ⟨p, 0, none⟩ = some v) : (loadVar 34 ⟨p, 0, none⟩).run Tryz.prog w = .ok v w := by
  have hu := run_underlying (P := Tryz.prog) Tryz.underlying34 w
  simp [loadVar, isAgg, hu]
  rw [hc]

set_option maxHeartbeats 4000000 in
theorem put_any {B : Nat → Prop} (w : World) (p : Nat) (L : List En) (e : En) (h : MAt B w p L) (hl : L.length ≤ 1000) :
    Calls Tryz.prog 66 #[.pointer (some ⟨p, 0, none⟩), enV e] w fun x w' => x = .returned (.tuple #[]) ∧ Putd B w w' p (putL L e) := by
  have H := Lib.hid h
  have hs0 : Stay (fun _ => False) w (w.alloc (.cells (enC e).toArray 42)) := Stay.alloc _ _
  have hb0 := Box.new w e
  have hz0 : (w.alloc (.cells (enC e).toArray 42)).heap.size = w.heap.size + 1 := by simp
  obtain ⟨w0, hw0⟩ : ∃ w0, w.alloc (.cells (enC e).toArray 42) = w0 := ⟨_, rfl⟩
  rw [hw0] at hs0 hb0 hz0
  have W0 := Lib.hid hw0
  have HS0 := Lib.hid hs0
  have HB0 := Lib.hid hb0
  have c0 := hb0.c (j := 0) rfl
  have c1 := hb0.c (j := 1) rfl
  have c2 := hb0.c (j := 2) rfl
  have f1 := hb0.fr 1
  have HPL := Lib.hid h.lt
  have HL := Lib.hid hl
  have HZ0 := Lib.hid hz0
  clear h hw0 hs0 hb0 hz0 hl
  unfold enV enC
  unfold enC at W0
  go_enter Tryz.func66, Tryz.ntmps66
  cases hg : e.g with
  | false =>
    have hbx : Box w0 w.heap.size (norm e) := by
      unfold norm
      rw [if_neg (by rw [hg]; decide)]
      exact HB0.out
    have hst : Stay (fun _ => False) w w0 := HS0.out
    have hsz : w0.heap.size = w.heap.size + 1 := HZ0.out
    rw [hg] at c2 W0
    go_wp2_with (rw [W0.out])
    obtain ⟨wb, rfl⟩ : ∃ wb, wb = w0 := ⟨_, rfl⟩
    have HBX := Lib.hid hbx
    have HST := Lib.hid hst
    have HSZ := Lib.hid hsz
    have HM := Lib.hid (H.out.stay0 hst)
    clear hbx hst hsz c0 c1 c2 f1 W0 HS0 HB0
    refine (place_any wb _ L e.k HM.out.mr HM.out.srt (by have := HL.out; omega)).mono ?_
    rintro x w1 ⟨rfl, s1⟩
    have HX1 := Lib.hid (HBX.out.stay0 s1)
    have HT1 := Lib.hid (HST.out.trans s1)
    have hm1 := HM.out.stay0 s1
    have HM1 := Lib.hid hm1
    have HZ1 := Lib.hid (show w.heap.size + 1 ≤ w1.heap.size by have := s1.size; have := HSZ.out; omega)
    obtain ⟨v, hp, ho, hbl⟩ := hm1.ex
    have HP := Lib.hid hp
    have HO := Lib.hid ho
    have HBL := Lib.hid hbl
    clear hm1 s1 HBX HST HM HSZ
    cases hhas : hasB L e.k with
    | true =>
      have hlt := hasB_lt hhas
      rcases id ho.2 with ⟨_, e0⟩ | ⟨b, c, cur, rfl, _, hgb, hnc, hcm, hcs, hct⟩
      · omega
      obtain ⟨R, hR⟩ : ∃ R, R = cur.toList := ⟨_, rfl⟩
      have hg' : w1.heap[b]? = some (.cells R.toArray 42 (0, 0)) := by rw [hR]; simpa using hgb
      have hRl : R.length = c * 3 := by rw [hR, Array.length_toList]; exact hcs
      rw [← hR] at hct
      have hcc : c ≤ 9223372036854775807 := by unfold maxLen at hcm; omega
      have hbp : b ≠ p := (hbl b rfl).2
      have hbB := (hbl b rfl).1
      have hbg : b ≠ w.heap.size := by
        have h1 := (H.out.stay0 HT1.out)
        obtain ⟨v2, h2, h3, h4⟩ := H.out.ex
        have h5 := (HT1.out.block p HPL.out (fun x => x)).trans h2
        rw [hp] at h5
        cases h5
        have := (h3.lt b rfl).2
        omega
      have HK := Lib.hid (show ∀ W, Stay (fun k => k = b) w1.drew W → W.cell? ⟨p, 0, none⟩ = some (.slice (some ⟨b, 0, none⟩) L.length c) from fun W hW => hW.cell (by show w1.cell? _ = _; rw [cell_of_row w1 p 0 _ _ _ HP.out]; rfl) (fun (h : p = b) => hbp h.symm))
      have HX := Lib.hid (show ∀ W, Stay (fun k => k = b) w1.drew W → Box W w.heap.size (norm e) from fun W hW => (show Box w1.drew w.heap.size (norm e) from HX1.out).stay hW (fun (h : w.heap.size = b) => hbg h.symm))
      have HRUN := Lib.hid (run_store_en (w := w1.drew) (o := posN L e.k * 3) (e := norm e) hg' (by rw [hRl]; omega))
      have hsS : Stay (fun k => k = b) w1 (w1.drew.setRow b (splice R (posN L e.k * 3) (enC (norm e))).toArray) := Stay.drew.trans (Stay.setRow _ _ _ rfl)
      have hput : putL L e = L.take (posN L e.k) ++ norm e :: L.drop (posN L e.k + 1) := by unfold putL; rw [hhas]; rfl
      have hlen : (putL L e).length = L.length := by rw [length_putL, if_pos hhas]
      have HPUT := Lib.hid (show Putd B w (w1.drew.setRow b (splice R (posN L e.k * 3) (enC (norm e))).toArray) p (putL L e) from
        ⟨⟨⟨.slice (some ⟨b, 0, none⟩) L.length c, (hsS.block p (Array.getElem?_eq_some_iff.1 HP.out).1 (fun (h : p = b) => hbp h.symm)).trans HP.out, by
            refine ⟨by rw [length_enRows], .inr ⟨b, c, (splice R (posN L e.k * 3) (enC (norm e))).toArray, by rw [hlen], Nat.zero_le _, setRow_heap w1.drew b _ _ _ _ hg', by rw [hlen]; exact hnc, hcm, ?_, ?_⟩⟩
            · rw [List.size_toArray, length_splice _ _ _ (by show _ * 3 + 3 ≤ _; omega), hRl]
            · rw [hlen, hput]
              exact splice_put L R (norm e) hlt hct, fun k hk => ⟨.inl (by cases hk; exact hbB), by cases hk; exact hbp⟩⟩, .inl H.out.bp, sorted_put H.out.srt e⟩,
         ⟨by rw [hsS.os, HT1.out.os], by rw [hsS.tape, HT1.out.tape], by rw [hsS.output, HT1.out.output], Nat.le_trans HT1.out.size hsS.size, fun k hk hB => (hsS.block k (Nat.lt_of_lt_of_le hk HT1.out.size) (fun (h : k = b) => hB (h ▸ hbB))).trans (HT1.out.block k hk (fun x => x))⟩⟩)
      clear hp ho hbl hgb hcm hcs hct hR hg' hRl hbg hsS hput hlen hhas hbB
      generalize posN L e.k = i at *
      go_wp2
      refine wp_region_held (S := Stay (fun k => k = b) w1.drew) (by kernel_rfl) ?_
      change wpAnyH _ _ _ _ _ _ _ _ (World.drew _)
      refine wpAnyH_takeL (i := 0) (v := .pointer (some ⟨p, 0, none⟩)) #[true, false, false, false, false, false, false, false] rfl (by kernel_rfl) (by kernel_rfl) (by kernel_rfl) (fun _ _ _ h => h) (by kernel_rfl) (Stay.refl _ _) (Or.inl ⟨by rfl, fun W hW => ?_⟩) ?_
      · go_simp
      conv => arg 8; simp [Act.put]
      refine wpAnyH_takeL (i := 1) (v := .pointer (some ⟨p, 0, none⟩)) #[true, true, false, false, false, false, false, false] rfl (by kernel_rfl) (by kernel_rfl) (by kernel_rfl) (fun _ _ _ h => h) (by kernel_rfl) (Stay.refl _ _) (Or.inl ⟨by rfl, fun W hW => ?_⟩) ?_
      · go_simp
      conv => arg 8; simp [Act.put]
      refine wpAnyH_takeL (i := 2) (v := .pointer (some ⟨p, 0, none⟩)) #[true, true, true, false, false, false, false, false] rfl (by kernel_rfl) (by kernel_rfl) (by kernel_rfl) (fun _ _ _ h => h) (by kernel_rfl) (Stay.refl _ _) (Or.inl ⟨by rfl, fun W hW => ?_⟩) ?_
      · go_simp
      conv => arg 8; simp [Act.put]
      refine wpAnyH_takeL (i := 3) (v := .slice (some ⟨b, 0, none⟩) L.length c) #[true, true, true, true, false, false, false, false] rfl (by kernel_rfl) (by kernel_rfl) (by kernel_rfl) (fun _ _ _ h => h) (by kernel_rfl) (Stay.refl _ _) (Or.inl ⟨by rfl, fun W hW => ?_⟩) ?_
      · have hc := HK.out W hW
        go_simp
      conv => arg 8; simp [Act.put]
      refine wpAnyH_takeL (i := 4) (v := .int .i64 (i : Int)) #[true, true, true, true, true, false, false, false] rfl (by kernel_rfl) (by kernel_rfl) (by kernel_rfl) (fun _ _ _ h => h) (by kernel_rfl) (Stay.refl _ _) (Or.inl ⟨by rfl, fun W hW => ?_⟩) ?_
      · go_simp
      conv => arg 8; simp [Act.put]
      refine wpAnyH_takeL (i := 5) #[true, true, true, true, true, true, false, false] rfl (by kernel_rfl) (by kernel_rfl) (by kernel_rfl) (fun _ _ _ h => h) (by kernel_rfl) (Stay.refl _ _) (yieldsIf_load rfl 42 (.tmp 3) rfl ⟨w.heap.size, 0, none⟩ rfl _ (fun W hW => (HX.out W hW).run_load)) ?_
      conv => arg 8; simp [Act.put]
      refine wpAnyH_takeL (i := 6) (v := .pointer (some ⟨b, i * 3, none⟩)) #[true, true, true, true, true, true, true, false] rfl (by kernel_rfl) (by kernel_rfl) (by kernel_rfl) (fun _ _ _ h => h) (by kernel_rfl) (Stay.refl _ _) (Or.inl ⟨by rfl, fun W hW => ?_⟩) ?_
      · go_simp
      conv => arg 8; simp [Act.put]
      refine wpAnyH_one #[true, true, true, true, true, true, true, true] (i := 7) rfl (by kernel_rfl) (by kernel_rfl) (fun K hK => ?_)
      refine step_store_run rfl 42 (.tmp 25) (.tmp 24) rfl ⟨b, i * 3, none⟩ rfl _ rfl _ HRUN.out ?_
      refine hK _ _ (Stay.setRow _ _ _ rfl) ?_
      clear hK
      conv => arg 8; simp [Act.put]
      refine wpAnyH_done (by kernel_rfl) ?_ _
      go_wp2
      refine bodyPost_ret (results_none rfl _ _ _) rfl ⟨rfl, HPUT.out⟩
    | false =>
      clear hp ho hbl
      have hc : w1.cell? ⟨p, 0, none⟩ = some v := by rw [cell_of_row w1 p 0 _ _ _ HP.out]; rfl
      have hle := posN_le e.k L
      have hput : putL L e = L.take (posN L e.k) ++ norm e :: L.drop (posN L e.k) := by unfold putL; rw [hhas]; rfl
      obtain ⟨wa, hwa⟩ : ∃ wa, w1.drew.alloc (.cells (enC (norm e)).toArray 42) = wa := ⟨_, rfl⟩
      have hsa : Stay (fun _ => False) w1.drew wa := hwa ▸ Stay.alloc _ _
      have hba : Box wa w1.heap.size (norm e) := by rw [← hwa]; exact Box.new w1.drew (norm e)
      have WA := Lib.hid hwa
      have HSA := Lib.hid hsa
      have HBA := Lib.hid hba
      have HOA := Lib.hid (show EnO 0 wa v L from HO.out.stay0 (Stay.drew.trans hsa))
      have HNE := Lib.hid (show v.ownBlock ≠ some w1.heap.size from fun h => by have := (HO.out.lt _ h).2; omega)
      have HC := Lib.hid (show w1.drew.cell? ⟨p, 0, none⟩ = some v from hc)
      have HCA := Lib.hid (hsa.cell (show w1.drew.cell? ⟨p, 0, none⟩ = some v from hc) (fun x => x))
      have HX := Lib.hid (show ∀ W, Stay (Own p v) w1.drew W → Box W w.heap.size (norm e) from fun W hW => (show Box w1.drew w.heap.size (norm e) from HX1.out).stay hW (fun h => by
        rcases h with h | h
        · have := HPL.out; omega
        · obtain ⟨v2, h2, h3, h4⟩ := H.out.ex
          have h5 := (HT1.out.block p HPL.out (fun x => x)).trans h2
          rw [HP.out] at h5
          cases h5
          have := (h3.lt _ h).2
          omega))
      have hins := insert_any wa v (posN L e.k) L (norm e) w1.heap.size HOA.out HBA.out HNE.out hle (by have := HL.out; omega)
      obtain ⟨M, hM⟩ : ∃ M, M = L.take (posN L e.k) ++ norm e :: L.drop (posN L e.k) := ⟨_, rfl⟩
      rw [← hM] at hput hins
      have HINS := Lib.hid hins
      have HFIN := Lib.hid (show ∀ w2 v', Ins wa w2 v v' M → w2.heap[p]? = some (.cells #[v] 123 (0, 0)) → Putd B w (w2.setCell ⟨p, 0, none⟩ v') p (putL L e) from fun w2 v' hI hp2 => by
        have hpv : v'.ownBlock ≠ some p := fun h => by
          rcases hI.blk with h1 | ⟨k, h1, h2⟩
          · rw [h1] at h
            exact (HBL.out p h).2 rfl
          · rw [h1] at h
            cases h
            have := hsa.size
            have h3 := (Array.getElem?_eq_some_iff.1 HP.out).1
            have h4 : w1.drew.heap.size = w1.heap.size := rfl
            omega
        have hS : Stay (Own p v) w1 (w2.setCell ⟨p, 0, none⟩ v') := ((Stay.drew.trans hsa).mono (fun _ x => x.elim)).trans ((hI.stay.mono (fun k hk => Or.inr hk)).trans (Stay.setCell _ _ _ (Or.inl rfl)))
        refine ⟨⟨⟨v', heap_setCell_same w2 p 0 _ _ _ hp2, ?_, fun k hk => ⟨?_, fun h => hpv (h ▸ hk)⟩⟩, .inl H.out.bp, sorted_put H.out.srt e⟩, ?_⟩
        · rw [hput]
          exact hI.own.stay (Stay.setCell (X := fun k => k = p) _ _ _ rfl) (fun k hk h => hpv (h ▸ hk))
        · rcases hI.blk with h1 | ⟨j, h1, h2⟩
          · exact .inl (HBL.out k (h1 ▸ hk)).1
          · rw [h1] at hk
            cases hk
            have h3 := hsa.size
            have h4 : w1.drew.heap.size = w1.heap.size := rfl
            have := HZ1.out
            exact .inr (by omega)
        · refine ⟨hS.os.trans HT1.out.os, hS.tape.trans HT1.out.tape, hS.output.trans HT1.out.output, Nat.le_trans HT1.out.size hS.size, fun k hk hB => (hS.block k (Nat.lt_of_lt_of_le hk HT1.out.size) (fun h => ?_)).trans (HT1.out.block k hk (fun x => x))⟩
          rcases h with h | h
          · exact hB (h ▸ H.out.bp)
          · exact hB (HBL.out k h).1)
      clear hput hwa hsa hba hc hhas hins hM
      generalize posN L e.k = i at *
      go_wp2
      refine wp_region_held (S := Stay (Own p v) w1.drew) (by kernel_rfl) ?_
      change wpAnyH _ _ _ _ _ _ _ _ (World.drew _)
      refine wpAnyH_takeL (i := 0) (v := .pointer (some ⟨p, 0, none⟩)) #[true, false, false, false, false, false, false, false, false, false, false, false] rfl (by kernel_rfl) (by kernel_rfl) (by kernel_rfl) (fun _ _ _ h => h) (by kernel_rfl) (Stay.refl _ _) (Or.inl ⟨by rfl, fun W hW => ?_⟩) ?_
      · go_simp
      conv => arg 8; simp [Act.put]
      refine wpAnyH_takeL (i := 1) (v := .pointer (some ⟨p, 0, none⟩)) #[true, true, false, false, false, false, false, false, false, false, false, false] rfl (by kernel_rfl) (by kernel_rfl) (by kernel_rfl) (fun _ _ _ h => h) (by kernel_rfl) (Stay.refl _ _) (Or.inl ⟨by rfl, fun W hW => ?_⟩) ?_
      · go_simp
      conv => arg 8; simp [Act.put]
      refine wpAnyH_takeL (i := 2) (v := .pointer (some ⟨p, 0, none⟩)) #[true, true, true, false, false, false, false, false, false, false, false, false] rfl (by kernel_rfl) (by kernel_rfl) (by kernel_rfl) (fun _ _ _ h => h) (by kernel_rfl) (Stay.refl _ _) (Or.inl ⟨by rfl, fun W hW => ?_⟩) ?_
      · go_simp
      conv => arg 8; simp [Act.put]
      refine wpAnyH_takeL (i := 3) (v := .pointer (some ⟨p, 0, none⟩)) #[true, true, true, true, false, false, false, false, false, false, false, false] rfl (by kernel_rfl) (by kernel_rfl) (by kernel_rfl) (fun _ _ _ h => h) (by kernel_rfl) (Stay.refl _ _) (Or.inl ⟨by rfl, fun W hW => ?_⟩) ?_
      · go_simp
      conv => arg 8; simp [Act.put]
      refine wpAnyH_takeL (i := 5) (v := .int .i64 (i : Int)) #[true, true, true, true, false, true, false, false, false, false, false, false] rfl (by kernel_rfl) (by kernel_rfl) (by kernel_rfl) (fun _ _ _ h => h) (by kernel_rfl) (Stay.refl _ _) (Or.inl ⟨by rfl, fun W hW => ?_⟩) ?_
      · go_simp
      conv => arg 8; simp [Act.put]
      refine wpAnyH_takeL (i := 6) #[true, true, true, true, false, true, true, false, false, false, false, false] rfl (by kernel_rfl) (by kernel_rfl) (by kernel_rfl) (fun _ _ _ h => h) (by kernel_rfl) (Stay.refl _ _) (yieldsIf_load rfl 42 (.tmp 3) rfl ⟨w.heap.size, 0, none⟩ rfl _ (fun W hW => (HX.out W hW).run_load)) ?_
      conv => arg 8; simp [Act.put]
      refine wpAnyH_ready (rs := [4, 7]) (by kernel_rfl) (by simp) ?_
      refine AllReadyH.cons (o := _) rfl (fun K hK => ?_) ?_
      · refine step_load_run rfl 34 (.tmp 29) rfl ⟨p, 0, none⟩ rfl v (run_load_slice HC.out) ?_
        refine Shut.out hK _ _ (Stay.refl _ _) (fun _ => ?_)
        clear hK
        refine wpAnyH_listedL #[true, true, true, true, true, true, true, false, false, false, false, false] (by kernel_rfl) ?_
        conv => arg 8; simp [Act.put]
        refine wpAnyH_one #[true, true, true, true, true, true, true, true, false, false, false, false] (i := 7) rfl (by kernel_rfl) (by kernel_rfl) (fun K hK => ?_)
        refine step_one_en rfl (.tmp 32) rfl (norm e) rfl ?_
        rw [WA.out]
        refine hK _ _ (HSA.out.mono (fun _ x => x.elim)) ?_
        clear hK
        conv => arg 8; simp [Act.put]
        refine wpAnyH_one #[true, true, true, true, true, true, true, true, true, false, false, false] (i := 8) rfl (by kernel_rfl) (by kernel_rfl) (fun K hK => ?_)
        go_simp
        go_wp2_with (go_at_call 98; refine HINS.out.mono ?_; rintro x w2 ⟨v', rfl, hI⟩)
        have HI := Lib.hid hI
        obtain ⟨va, vc, rfl⟩ := hI.own.form
        have HS2 := Lib.hid (show Stay (Own p v) w1.drew w2 from (HSA.out.mono (fun _ x => x.elim)).trans (hI.stay.mono (fun k hk => Or.inr hk)))
        clear hI
        refine hK _ _ HS2.out ?_
        clear hK
        conv => arg 8; simp [Act.put]
        refine wpAnyH_takeL (i := 9) (v := .pointer (some ⟨p, 0, none⟩)) #[true, true, true, true, true, true, true, true, true, true, false, false] rfl (by kernel_rfl) (by kernel_rfl) (by kernel_rfl) (fun _ _ _ h => h) (by kernel_rfl) HS2.out (Or.inl ⟨by rfl, fun W hW => ?_⟩) ?_
        · go_simp
        conv => arg 8; simp [Act.put]
        refine wpAnyH_takeL (i := 10) (v := .pointer (some ⟨p, 0, none⟩)) #[true, true, true, true, true, true, true, true, true, true, true, false] rfl (by kernel_rfl) (by kernel_rfl) (by kernel_rfl) (fun _ _ _ h => h) (by kernel_rfl) HS2.out (Or.inl ⟨by rfl, fun W hW => ?_⟩) ?_
        · go_simp
        conv => arg 8; simp [Act.put]
        refine wpAnyH_one #[true, true, true, true, true, true, true, true, true, true, true, true] (i := 11) rfl (by kernel_rfl) (by kernel_rfl) (fun K hK => ?_)
        have hp2 : w2.heap[p]? = some (.cells #[v] 123 (0, 0)) := (HI.out.stay.block p (Nat.lt_of_lt_of_le (Array.getElem?_eq_some_iff.1 HP.out).1 HSA.out.size) (fun h => (HBL.out p h).2 rfl)).trans ((HSA.out.block p (Array.getElem?_eq_some_iff.1 HP.out).1 (fun x => x)).trans HP.out)
        have hc2 : w2.cell? ⟨p, 0, none⟩ = some v := by rw [cell_of_row w2 p 0 _ _ _ hp2]; rfl
        have hf2 := frozen_of_row w2 p 0 _ _ hp2
        have HPUT := Lib.hid (HFIN.out w2 _ HI.out hp2)
        go_simp
        refine hK _ _ (HS2.out.trans (Stay.setCell _ _ _ (Or.inl rfl))) ?_
        clear hK hp2 hc2 hf2
        conv => arg 8; simp [Act.put]
        refine wpAnyH_done (by kernel_rfl) ?_ _
        go_wp2
        exact bodyPost_end (results_none rfl _ _ _) rfl ⟨rfl, HPUT.out⟩
      refine AllReadyH.cons (o := _) rfl (fun K hK => ?_) ?_
      · refine step_one_en rfl (.tmp 32) rfl (norm e) rfl ?_
        rw [WA.out]
        refine Shut.out hK _ _ (HSA.out.mono (fun _ x => x.elim)) (fun _ => ?_)
        clear hK
        refine wpAnyH_listedL #[true, true, true, true, false, true, true, true, false, false, false, false] (by kernel_rfl) ?_
        conv => arg 8; simp [Act.put]
        refine wpAnyH_one #[true, true, true, true, true, true, true, true, false, false, false, false] (i := 4) rfl (by kernel_rfl) (by kernel_rfl) (fun K hK => ?_)
        refine step_load_run rfl 34 (.tmp 29) rfl ⟨p, 0, none⟩ rfl v (run_load_slice HCA.out) ?_
        refine hK _ _ (HSA.out.mono (fun _ x => x.elim)) ?_
        clear hK
        conv => arg 8; simp [Act.put]
        refine wpAnyH_one #[true, true, true, true, true, true, true, true, true, false, false, false] (i := 8) rfl (by kernel_rfl) (by kernel_rfl) (fun K hK => ?_)
        go_simp
        go_wp2_with (go_at_call 98; refine HINS.out.mono ?_; rintro x w2 ⟨v', rfl, hI⟩)
        have HI := Lib.hid hI
        obtain ⟨va, vc, rfl⟩ := hI.own.form
        have HS2 := Lib.hid (show Stay (Own p v) w1.drew w2 from (HSA.out.mono (fun _ x => x.elim)).trans (hI.stay.mono (fun k hk => Or.inr hk)))
        clear hI
        refine hK _ _ HS2.out ?_
        clear hK
        conv => arg 8; simp [Act.put]
        refine wpAnyH_takeL (i := 9) (v := .pointer (some ⟨p, 0, none⟩)) #[true, true, true, true, true, true, true, true, true, true, false, false] rfl (by kernel_rfl) (by kernel_rfl) (by kernel_rfl) (fun _ _ _ h => h) (by kernel_rfl) HS2.out (Or.inl ⟨by rfl, fun W hW => ?_⟩) ?_
        · go_simp
        conv => arg 8; simp [Act.put]
        refine wpAnyH_takeL (i := 10) (v := .pointer (some ⟨p, 0, none⟩)) #[true, true, true, true, true, true, true, true, true, true, true, false] rfl (by kernel_rfl) (by kernel_rfl) (by kernel_rfl) (fun _ _ _ h => h) (by kernel_rfl) HS2.out (Or.inl ⟨by rfl, fun W hW => ?_⟩) ?_
        · go_simp
        conv => arg 8; simp [Act.put]
        refine wpAnyH_one #[true, true, true, true, true, true, true, true, true, true, true, true] (i := 11) rfl (by kernel_rfl) (by kernel_rfl) (fun K hK => ?_)
        have hp2 : w2.heap[p]? = some (.cells #[v] 123 (0, 0)) := (HI.out.stay.block p (Nat.lt_of_lt_of_le (Array.getElem?_eq_some_iff.1 HP.out).1 HSA.out.size) (fun h => (HBL.out p h).2 rfl)).trans ((HSA.out.block p (Array.getElem?_eq_some_iff.1 HP.out).1 (fun x => x)).trans HP.out)
        have hc2 : w2.cell? ⟨p, 0, none⟩ = some v := by rw [cell_of_row w2 p 0 _ _ _ hp2]; rfl
        have hf2 := frozen_of_row w2 p 0 _ _ hp2
        have HPUT := Lib.hid (HFIN.out w2 _ HI.out hp2)
        go_simp
        refine hK _ _ (HS2.out.trans (Stay.setCell _ _ _ (Or.inl rfl))) ?_
        clear hK hp2 hc2 hf2
        conv => arg 8; simp [Act.put]
        refine wpAnyH_done (by kernel_rfl) ?_ _
        go_wp2
        exact bodyPost_end (results_none rfl _ _ _) rfl ⟨rfl, HPUT.out⟩
      exact AllReadyH.nil
  | true =>
    have hbx : Box (w0.setCell ⟨w.heap.size, 1, none⟩ (.string ⟨#[]⟩)) w.heap.size (norm e) := by
      have h1 := heap_setCell_same w0 w.heap.size 1 _ _ (.string ⟨#[]⟩) HB0.out
      unfold Box norm
      rw [if_pos hg]
      unfold enC at h1 ⊢
      rw [hg] at h1
      exact h1
    have hst : Stay (fun _ => False) w (w0.setCell ⟨w.heap.size, 1, none⟩ (.string ⟨#[]⟩)) :=
      stay_seal (X := fun k => k = w.heap.size) ((HS0.out.mono (fun _ x => x.elim)).trans (Stay.setCell _ _ _ rfl)) (fun k hk => by have hk' : k = w.heap.size := hk; omega)
    have hsz : (w0.setCell ⟨w.heap.size, 1, none⟩ (.string ⟨#[]⟩)).heap.size = w.heap.size + 1 := by simp [HZ0.out]
    rw [hg] at c2 W0
    go_wp2_with (rw [W0.out])
    obtain ⟨wb, hwb⟩ : ∃ wb, w0.setCell ⟨w.heap.size, 1, none⟩ (.string ⟨#[]⟩) = wb := ⟨_, rfl⟩
    rw [hwb] at hbx hst hsz ⊢
    clear hwb
    have HBX := Lib.hid hbx
    have HST := Lib.hid hst
    have HSZ := Lib.hid hsz
    have HM := Lib.hid (H.out.stay0 hst)
    clear hbx hst hsz c0 c1 c2 f1 W0 HS0 HB0
    refine (place_any wb _ L e.k HM.out.mr HM.out.srt (by have := HL.out; omega)).mono ?_
    rintro x w1 ⟨rfl, s1⟩
    have HX1 := Lib.hid (HBX.out.stay0 s1)
    have HT1 := Lib.hid (HST.out.trans s1)
    have hm1 := HM.out.stay0 s1
    have HM1 := Lib.hid hm1
    have HZ1 := Lib.hid (show w.heap.size + 1 ≤ w1.heap.size by have := s1.size; have := HSZ.out; omega)
    obtain ⟨v, hp, ho, hbl⟩ := hm1.ex
    have HP := Lib.hid hp
    have HO := Lib.hid ho
    have HBL := Lib.hid hbl
    clear hm1 s1 HBX HST HM HSZ
    cases hhas : hasB L e.k with
    | true =>
      have hlt := hasB_lt hhas
      rcases id ho.2 with ⟨_, e0⟩ | ⟨b, c, cur, rfl, _, hgb, hnc, hcm, hcs, hct⟩
      · omega
      obtain ⟨R, hR⟩ : ∃ R, R = cur.toList := ⟨_, rfl⟩
      have hg' : w1.heap[b]? = some (.cells R.toArray 42 (0, 0)) := by rw [hR]; simpa using hgb
      have hRl : R.length = c * 3 := by rw [hR, Array.length_toList]; exact hcs
      rw [← hR] at hct
      have hcc : c ≤ 9223372036854775807 := by unfold maxLen at hcm; omega
      have hbp : b ≠ p := (hbl b rfl).2
      have hbB := (hbl b rfl).1
      have hbg : b ≠ w.heap.size := by
        have h1 := (H.out.stay0 HT1.out)
        obtain ⟨v2, h2, h3, h4⟩ := H.out.ex
        have h5 := (HT1.out.block p HPL.out (fun x => x)).trans h2
        rw [hp] at h5
        cases h5
        have := (h3.lt b rfl).2
        omega
      have HK := Lib.hid (show ∀ W, Stay (fun k => k = b) w1.drew W → W.cell? ⟨p, 0, none⟩ = some (.slice (some ⟨b, 0, none⟩) L.length c) from fun W hW => hW.cell (by show w1.cell? _ = _; rw [cell_of_row w1 p 0 _ _ _ HP.out]; rfl) (fun (h : p = b) => hbp h.symm))
      have HX := Lib.hid (show ∀ W, Stay (fun k => k = b) w1.drew W → Box W w.heap.size (norm e) from fun W hW => (show Box w1.drew w.heap.size (norm e) from HX1.out).stay hW (fun (h : w.heap.size = b) => hbg h.symm))
      have HRUN := Lib.hid (run_store_en (w := w1.drew) (o := posN L e.k * 3) (e := norm e) hg' (by rw [hRl]; omega))
      have hsS : Stay (fun k => k = b) w1 (w1.drew.setRow b (splice R (posN L e.k * 3) (enC (norm e))).toArray) := Stay.drew.trans (Stay.setRow _ _ _ rfl)
      have hput : putL L e = L.take (posN L e.k) ++ norm e :: L.drop (posN L e.k + 1) := by unfold putL; rw [hhas]; rfl
      have hlen : (putL L e).length = L.length := by rw [length_putL, if_pos hhas]
      have HPUT := Lib.hid (show Putd B w (w1.drew.setRow b (splice R (posN L e.k * 3) (enC (norm e))).toArray) p (putL L e) from
        ⟨⟨⟨.slice (some ⟨b, 0, none⟩) L.length c, (hsS.block p (Array.getElem?_eq_some_iff.1 HP.out).1 (fun (h : p = b) => hbp h.symm)).trans HP.out, by
            refine ⟨by rw [length_enRows], .inr ⟨b, c, (splice R (posN L e.k * 3) (enC (norm e))).toArray, by rw [hlen], Nat.zero_le _, setRow_heap w1.drew b _ _ _ _ hg', by rw [hlen]; exact hnc, hcm, ?_, ?_⟩⟩
            · rw [List.size_toArray, length_splice _ _ _ (by show _ * 3 + 3 ≤ _; omega), hRl]
            · rw [hlen, hput]
              exact splice_put L R (norm e) hlt hct, fun k hk => ⟨.inl (by cases hk; exact hbB), by cases hk; exact hbp⟩⟩, .inl H.out.bp, sorted_put H.out.srt e⟩,
         ⟨by rw [hsS.os, HT1.out.os], by rw [hsS.tape, HT1.out.tape], by rw [hsS.output, HT1.out.output], Nat.le_trans HT1.out.size hsS.size, fun k hk hB => (hsS.block k (Nat.lt_of_lt_of_le hk HT1.out.size) (fun (h : k = b) => hB (h ▸ hbB))).trans (HT1.out.block k hk (fun x => x))⟩⟩)
      clear hp ho hbl hgb hcm hcs hct hR hg' hRl hbg hsS hput hlen hhas hbB
      generalize posN L e.k = i at *
      go_wp2
      refine wp_region_held (S := Stay (fun k => k = b) w1.drew) (by kernel_rfl) ?_
      change wpAnyH _ _ _ _ _ _ _ _ (World.drew _)
      refine wpAnyH_takeL (i := 0) (v := .pointer (some ⟨p, 0, none⟩)) #[true, false, false, false, false, false, false, false] rfl (by kernel_rfl) (by kernel_rfl) (by kernel_rfl) (fun _ _ _ h => h) (by kernel_rfl) (Stay.refl _ _) (Or.inl ⟨by rfl, fun W hW => ?_⟩) ?_
      · go_simp
      conv => arg 8; simp [Act.put]
      refine wpAnyH_takeL (i := 1) (v := .pointer (some ⟨p, 0, none⟩)) #[true, true, false, false, false, false, false, false] rfl (by kernel_rfl) (by kernel_rfl) (by kernel_rfl) (fun _ _ _ h => h) (by kernel_rfl) (Stay.refl _ _) (Or.inl ⟨by rfl, fun W hW => ?_⟩) ?_
      · go_simp
      conv => arg 8; simp [Act.put]
      refine wpAnyH_takeL (i := 2) (v := .pointer (some ⟨p, 0, none⟩)) #[true, true, true, false, false, false, false, false] rfl (by kernel_rfl) (by kernel_rfl) (by kernel_rfl) (fun _ _ _ h => h) (by kernel_rfl) (Stay.refl _ _) (Or.inl ⟨by rfl, fun W hW => ?_⟩) ?_
      · go_simp
      conv => arg 8; simp [Act.put]
      refine wpAnyH_takeL (i := 3) (v := .slice (some ⟨b, 0, none⟩) L.length c) #[true, true, true, true, false, false, false, false] rfl (by kernel_rfl) (by kernel_rfl) (by kernel_rfl) (fun _ _ _ h => h) (by kernel_rfl) (Stay.refl _ _) (Or.inl ⟨by rfl, fun W hW => ?_⟩) ?_
      · have hc := HK.out W hW
        go_simp
      conv => arg 8; simp [Act.put]
      refine wpAnyH_takeL (i := 4) (v := .int .i64 (i : Int)) #[true, true, true, true, true, false, false, false] rfl (by kernel_rfl) (by kernel_rfl) (by kernel_rfl) (fun _ _ _ h => h) (by kernel_rfl) (Stay.refl _ _) (Or.inl ⟨by rfl, fun W hW => ?_⟩) ?_
      · go_simp
      conv => arg 8; simp [Act.put]
      refine wpAnyH_takeL (i := 5) #[true, true, true, true, true, true, false, false] rfl (by kernel_rfl) (by kernel_rfl) (by kernel_rfl) (fun _ _ _ h => h) (by kernel_rfl) (Stay.refl _ _) (yieldsIf_load rfl 42 (.tmp 3) rfl ⟨w.heap.size, 0, none⟩ rfl _ (fun W hW => (HX.out W hW).run_load)) ?_
      conv => arg 8; simp [Act.put]
      refine wpAnyH_takeL (i := 6) (v := .pointer (some ⟨b, i * 3, none⟩)) #[true, true, true, true, true, true, true, false] rfl (by kernel_rfl) (by kernel_rfl) (by kernel_rfl) (fun _ _ _ h => h) (by kernel_rfl) (Stay.refl _ _) (Or.inl ⟨by rfl, fun W hW => ?_⟩) ?_
      · go_simp
      conv => arg 8; simp [Act.put]
      refine wpAnyH_one #[true, true, true, true, true, true, true, true] (i := 7) rfl (by kernel_rfl) (by kernel_rfl) (fun K hK => ?_)
      refine step_store_run rfl 42 (.tmp 25) (.tmp 24) rfl ⟨b, i * 3, none⟩ rfl _ rfl _ HRUN.out ?_
      refine hK _ _ (Stay.setRow _ _ _ rfl) ?_
      clear hK
      conv => arg 8; simp [Act.put]
      refine wpAnyH_done (by kernel_rfl) ?_ _
      go_wp2
      refine bodyPost_ret (results_none rfl _ _ _) rfl ⟨rfl, HPUT.out⟩
    | false =>
      clear hp ho hbl
      have hc : w1.cell? ⟨p, 0, none⟩ = some v := by rw [cell_of_row w1 p 0 _ _ _ HP.out]; rfl
      have hle := posN_le e.k L
      have hput : putL L e = L.take (posN L e.k) ++ norm e :: L.drop (posN L e.k) := by unfold putL; rw [hhas]; rfl
      obtain ⟨wa, hwa⟩ : ∃ wa, w1.drew.alloc (.cells (enC (norm e)).toArray 42) = wa := ⟨_, rfl⟩
      have hsa : Stay (fun _ => False) w1.drew wa := hwa ▸ Stay.alloc _ _
      have hba : Box wa w1.heap.size (norm e) := by rw [← hwa]; exact Box.new w1.drew (norm e)
      have WA := Lib.hid hwa
      have HSA := Lib.hid hsa
      have HBA := Lib.hid hba
      have HOA := Lib.hid (show EnO 0 wa v L from HO.out.stay0 (Stay.drew.trans hsa))
      have HNE := Lib.hid (show v.ownBlock ≠ some w1.heap.size from fun h => by have := (HO.out.lt _ h).2; omega)
      have HC := Lib.hid (show w1.drew.cell? ⟨p, 0, none⟩ = some v from hc)
      have HCA := Lib.hid (hsa.cell (show w1.drew.cell? ⟨p, 0, none⟩ = some v from hc) (fun x => x))
      have HX := Lib.hid (show ∀ W, Stay (Own p v) w1.drew W → Box W w.heap.size (norm e) from fun W hW => (show Box w1.drew w.heap.size (norm e) from HX1.out).stay hW (fun h => by
        rcases h with h | h
        · have := HPL.out; omega
        · obtain ⟨v2, h2, h3, h4⟩ := H.out.ex
          have h5 := (HT1.out.block p HPL.out (fun x => x)).trans h2
          rw [HP.out] at h5
          cases h5
          have := (h3.lt _ h).2
          omega))
      have hins := insert_any wa v (posN L e.k) L (norm e) w1.heap.size HOA.out HBA.out HNE.out hle (by have := HL.out; omega)
      obtain ⟨M, hM⟩ : ∃ M, M = L.take (posN L e.k) ++ norm e :: L.drop (posN L e.k) := ⟨_, rfl⟩
      rw [← hM] at hput hins
      have HINS := Lib.hid hins
      have HFIN := Lib.hid (show ∀ w2 v', Ins wa w2 v v' M → w2.heap[p]? = some (.cells #[v] 123 (0, 0)) → Putd B w (w2.setCell ⟨p, 0, none⟩ v') p (putL L e) from fun w2 v' hI hp2 => by
        have hpv : v'.ownBlock ≠ some p := fun h => by
          rcases hI.blk with h1 | ⟨k, h1, h2⟩
          · rw [h1] at h
            exact (HBL.out p h).2 rfl
          · rw [h1] at h
            cases h
            have := hsa.size
            have h3 := (Array.getElem?_eq_some_iff.1 HP.out).1
            have h4 : w1.drew.heap.size = w1.heap.size := rfl
            omega
        have hS : Stay (Own p v) w1 (w2.setCell ⟨p, 0, none⟩ v') := ((Stay.drew.trans hsa).mono (fun _ x => x.elim)).trans ((hI.stay.mono (fun k hk => Or.inr hk)).trans (Stay.setCell _ _ _ (Or.inl rfl)))
        refine ⟨⟨⟨v', heap_setCell_same w2 p 0 _ _ _ hp2, ?_, fun k hk => ⟨?_, fun h => hpv (h ▸ hk)⟩⟩, .inl H.out.bp, sorted_put H.out.srt e⟩, ?_⟩
        · rw [hput]
          exact hI.own.stay (Stay.setCell (X := fun k => k = p) _ _ _ rfl) (fun k hk h => hpv (h ▸ hk))
        · rcases hI.blk with h1 | ⟨j, h1, h2⟩
          · exact .inl (HBL.out k (h1 ▸ hk)).1
          · rw [h1] at hk
            cases hk
            have h3 := hsa.size
            have h4 : w1.drew.heap.size = w1.heap.size := rfl
            have := HZ1.out
            exact .inr (by omega)
        · refine ⟨hS.os.trans HT1.out.os, hS.tape.trans HT1.out.tape, hS.output.trans HT1.out.output, Nat.le_trans HT1.out.size hS.size, fun k hk hB => (hS.block k (Nat.lt_of_lt_of_le hk HT1.out.size) (fun h => ?_)).trans (HT1.out.block k hk (fun x => x))⟩
          rcases h with h | h
          · exact hB (h ▸ H.out.bp)
          · exact hB (HBL.out k h).1)
      clear hput hwa hsa hba hc hhas hins hM
      generalize posN L e.k = i at *
      go_wp2
      refine wp_region_held (S := Stay (Own p v) w1.drew) (by kernel_rfl) ?_
      change wpAnyH _ _ _ _ _ _ _ _ (World.drew _)
      refine wpAnyH_takeL (i := 0) (v := .pointer (some ⟨p, 0, none⟩)) #[true, false, false, false, false, false, false, false, false, false, false, false] rfl (by kernel_rfl) (by kernel_rfl) (by kernel_rfl) (fun _ _ _ h => h) (by kernel_rfl) (Stay.refl _ _) (Or.inl ⟨by rfl, fun W hW => ?_⟩) ?_
      · go_simp
      conv => arg 8; simp [Act.put]
      refine wpAnyH_takeL (i := 1) (v := .pointer (some ⟨p, 0, none⟩)) #[true, true, false, false, false, false, false, false, false, false, false, false] rfl (by kernel_rfl) (by kernel_rfl) (by kernel_rfl) (fun _ _ _ h => h) (by kernel_rfl) (Stay.refl _ _) (Or.inl ⟨by rfl, fun W hW => ?_⟩) ?_
      · go_simp
      conv => arg 8; simp [Act.put]
      refine wpAnyH_takeL (i := 2) (v := .pointer (some ⟨p, 0, none⟩)) #[true, true, true, false, false, false, false, false, false, false, false, false] rfl (by kernel_rfl) (by kernel_rfl) (by kernel_rfl) (fun _ _ _ h => h) (by kernel_rfl) (Stay.refl _ _) (Or.inl ⟨by rfl, fun W hW => ?_⟩) ?_
      · go_simp
      conv => arg 8; simp [Act.put]
      refine wpAnyH_takeL (i := 3) (v := .pointer (some ⟨p, 0, none⟩)) #[true, true, true, true, false, false, false, false, false, false, false, false] rfl (by kernel_rfl) (by kernel_rfl) (by kernel_rfl) (fun _ _ _ h => h) (by kernel_rfl) (Stay.refl _ _) (Or.inl ⟨by rfl, fun W hW => ?_⟩) ?_
      · go_simp
      conv => arg 8; simp [Act.put]
      refine wpAnyH_takeL (i := 5) (v := .int .i64 (i : Int)) #[true, true, true, true, false, true, false, false, false, false, false, false] rfl (by kernel_rfl) (by kernel_rfl) (by kernel_rfl) (fun _ _ _ h => h) (by kernel_rfl) (Stay.refl _ _) (Or.inl ⟨by rfl, fun W hW => ?_⟩) ?_
      · go_simp
      conv => arg 8; simp [Act.put]
      refine wpAnyH_takeL (i := 6) #[true, true, true, true, false, true, true, false, false, false, false, false] rfl (by kernel_rfl) (by kernel_rfl) (by kernel_rfl) (fun _ _ _ h => h) (by kernel_rfl) (Stay.refl _ _) (yieldsIf_load rfl 42 (.tmp 3) rfl ⟨w.heap.size, 0, none⟩ rfl _ (fun W hW => (HX.out W hW).run_load)) ?_
      conv => arg 8; simp [Act.put]
      refine wpAnyH_ready (rs := [4, 7]) (by kernel_rfl) (by simp) ?_
      refine AllReadyH.cons (o := _) rfl (fun K hK => ?_) ?_
      · refine step_load_run rfl 34 (.tmp 29) rfl ⟨p, 0, none⟩ rfl v (run_load_slice HC.out) ?_
        refine Shut.out hK _ _ (Stay.refl _ _) (fun _ => ?_)
        clear hK
        refine wpAnyH_listedL #[true, true, true, true, true, true, true, false, false, false, false, false] (by kernel_rfl) ?_
        conv => arg 8; simp [Act.put]
        refine wpAnyH_one #[true, true, true, true, true, true, true, true, false, false, false, false] (i := 7) rfl (by kernel_rfl) (by kernel_rfl) (fun K hK => ?_)
        refine step_one_en rfl (.tmp 32) rfl (norm e) rfl ?_
        rw [WA.out]
        refine hK _ _ (HSA.out.mono (fun _ x => x.elim)) ?_
        clear hK
        conv => arg 8; simp [Act.put]
        refine wpAnyH_one #[true, true, true, true, true, true, true, true, true, false, false, false] (i := 8) rfl (by kernel_rfl) (by kernel_rfl) (fun K hK => ?_)
        go_simp
        go_wp2_with (go_at_call 98; refine HINS.out.mono ?_; rintro x w2 ⟨v', rfl, hI⟩)
        have HI := Lib.hid hI
        obtain ⟨va, vc, rfl⟩ := hI.own.form
        have HS2 := Lib.hid (show Stay (Own p v) w1.drew w2 from (HSA.out.mono (fun _ x => x.elim)).trans (hI.stay.mono (fun k hk => Or.inr hk)))
        clear hI
        refine hK _ _ HS2.out ?_
        clear hK
        conv => arg 8; simp [Act.put]
        refine wpAnyH_takeL (i := 9) (v := .pointer (some ⟨p, 0, none⟩)) #[true, true, true, true, true, true, true, true, true, true, false, false] rfl (by kernel_rfl) (by kernel_rfl) (by kernel_rfl) (fun _ _ _ h => h) (by kernel_rfl) HS2.out (Or.inl ⟨by rfl, fun W hW => ?_⟩) ?_
        · go_simp
        conv => arg 8; simp [Act.put]
        refine wpAnyH_takeL (i := 10) (v := .pointer (some ⟨p, 0, none⟩)) #[true, true, true, true, true, true, true, true, true, true, true, false] rfl (by kernel_rfl) (by kernel_rfl) (by kernel_rfl) (fun _ _ _ h => h) (by kernel_rfl) HS2.out (Or.inl ⟨by rfl, fun W hW => ?_⟩) ?_
        · go_simp
        conv => arg 8; simp [Act.put]
        refine wpAnyH_one #[true, true, true, true, true, true, true, true, true, true, true, true] (i := 11) rfl (by kernel_rfl) (by kernel_rfl) (fun K hK => ?_)
        have hp2 : w2.heap[p]? = some (.cells #[v] 123 (0, 0)) := (HI.out.stay.block p (Nat.lt_of_lt_of_le (Array.getElem?_eq_some_iff.1 HP.out).1 HSA.out.size) (fun h => (HBL.out p h).2 rfl)).trans ((HSA.out.block p (Array.getElem?_eq_some_iff.1 HP.out).1 (fun x => x)).trans HP.out)
        have hc2 : w2.cell? ⟨p, 0, none⟩ = some v := by rw [cell_of_row w2 p 0 _ _ _ hp2]; rfl
        have hf2 := frozen_of_row w2 p 0 _ _ hp2
        have HPUT := Lib.hid (HFIN.out w2 _ HI.out hp2)
        go_simp
        refine hK _ _ (HS2.out.trans (Stay.setCell _ _ _ (Or.inl rfl))) ?_
        clear hK hp2 hc2 hf2
        conv => arg 8; simp [Act.put]
        refine wpAnyH_done (by kernel_rfl) ?_ _
        go_wp2
        exact bodyPost_end (results_none rfl _ _ _) rfl ⟨rfl, HPUT.out⟩
      refine AllReadyH.cons (o := _) rfl (fun K hK => ?_) ?_
      · refine step_one_en rfl (.tmp 32) rfl (norm e) rfl ?_
        rw [WA.out]
        refine Shut.out hK _ _ (HSA.out.mono (fun _ x => x.elim)) (fun _ => ?_)
        clear hK
        refine wpAnyH_listedL #[true, true, true, true, false, true, true, true, false, false, false, false] (by kernel_rfl) ?_
        conv => arg 8; simp [Act.put]
        refine wpAnyH_one #[true, true, true, true, true, true, true, true, false, false, false, false] (i := 4) rfl (by kernel_rfl) (by kernel_rfl) (fun K hK => ?_)
        refine step_load_run rfl 34 (.tmp 29) rfl ⟨p, 0, none⟩ rfl v (run_load_slice HCA.out) ?_
        refine hK _ _ (HSA.out.mono (fun _ x => x.elim)) ?_
        clear hK
        conv => arg 8; simp [Act.put]
        refine wpAnyH_one #[true, true, true, true, true, true, true, true, true, false, false, false] (i := 8) rfl (by kernel_rfl) (by kernel_rfl) (fun K hK => ?_)
        go_simp
        go_wp2_with (go_at_call 98; refine HINS.out.mono ?_; rintro x w2 ⟨v', rfl, hI⟩)
        have HI := Lib.hid hI
        obtain ⟨va, vc, rfl⟩ := hI.own.form
        have HS2 := Lib.hid (show Stay (Own p v) w1.drew w2 from (HSA.out.mono (fun _ x => x.elim)).trans (hI.stay.mono (fun k hk => Or.inr hk)))
        clear hI
        refine hK _ _ HS2.out ?_
        clear hK
        conv => arg 8; simp [Act.put]
        refine wpAnyH_takeL (i := 9) (v := .pointer (some ⟨p, 0, none⟩)) #[true, true, true, true, true, true, true, true, true, true, false, false] rfl (by kernel_rfl) (by kernel_rfl) (by kernel_rfl) (fun _ _ _ h => h) (by kernel_rfl) HS2.out (Or.inl ⟨by rfl, fun W hW => ?_⟩) ?_
        · go_simp
        conv => arg 8; simp [Act.put]
        refine wpAnyH_takeL (i := 10) (v := .pointer (some ⟨p, 0, none⟩)) #[true, true, true, true, true, true, true, true, true, true, true, false] rfl (by kernel_rfl) (by kernel_rfl) (by kernel_rfl) (fun _ _ _ h => h) (by kernel_rfl) HS2.out (Or.inl ⟨by rfl, fun W hW => ?_⟩) ?_
        · go_simp
        conv => arg 8; simp [Act.put]
        refine wpAnyH_one #[true, true, true, true, true, true, true, true, true, true, true, true] (i := 11) rfl (by kernel_rfl) (by kernel_rfl) (fun K hK => ?_)
        have hp2 : w2.heap[p]? = some (.cells #[v] 123 (0, 0)) := (HI.out.stay.block p (Nat.lt_of_lt_of_le (Array.getElem?_eq_some_iff.1 HP.out).1 HSA.out.size) (fun h => (HBL.out p h).2 rfl)).trans ((HSA.out.block p (Array.getElem?_eq_some_iff.1 HP.out).1 (fun x => x)).trans HP.out)
        have hc2 : w2.cell? ⟨p, 0, none⟩ = some v := by rw [cell_of_row w2 p 0 _ _ _ hp2]; rfl
        have hf2 := frozen_of_row w2 p 0 _ _ hp2
        have HPUT := Lib.hid (HFIN.out w2 _ HI.out hp2)
        go_simp
        refine hK _ _ (HS2.out.trans (Stay.setCell _ _ _ (Or.inl rfl))) ?_
        clear hK hp2 hc2 hf2
        conv => arg 8; simp [Act.put]
        refine wpAnyH_done (by kernel_rfl) ?_ _
        go_wp2
        exact bodyPost_end (results_none rfl _ _ _) rfl ⟨rfl, HPUT.out⟩
      exact AllReadyH.nil
end Go.Proofs.YtljlfdhjolcnaaaGreat.Me

/-
  mem: a key's entry; those of a range; all.
-/
namespace Go.Proofs.YtljlfdhjolcnaaaGreat.Me
open Go.RowKit Go.Maps
set_option maxRecDepth 100000
set_option linter.unusedVariables false

/-- What Get answers: the entry, or nothing. -/
def entOf : Option En → En
  | some e => e
  | none => ⟨[], [], false⟩

set_option maxHeartbeats 4000000 in
theorem get_any (w : World) (pv : Value) (L : List En) (k : List UInt8) (h : MR w pv L) (hs : Sorted L) (hl : L.length ≤ 1000000) :
    Calls Tryz.prog 65 #[pv, strV k] w fun e w' => e = .returned (.tuple #[enV (entOf (getL L k)), .bool (getL L k).isSome]) ∧ Stay (fun _ => False) w w' := by
  have H := Lib.hid h
  have HS := Lib.hid hs
  obtain ⟨p0, rfl⟩ := h.ptr
  have HBX := Lib.hid (Box.new w ⟨[], [], false⟩)
  have HA := Lib.hid (show Stay (fun _ => False) w (w.alloc (.cells (enC ⟨[], [], false⟩).toArray 42)) from Stay.alloc _ _)
  have H1 := Lib.hid (H.out.stay0 HA.out)
  obtain ⟨w0, hw0⟩ : ∃ w0, w.alloc (.cells (enC ⟨[], [], false⟩).toArray 42) = w0 := ⟨_, rfl⟩
  rw [hw0] at HBX HA H1
  have W0 := Lib.hid hw0
  have hg := getL_sorted hs k
  clear h hs hw0
  go_enter Tryz.func65, Tryz.ntmps65
  go_wp2_with (first
    | (with_reducible refine alloc_en rfl rfl ?_; rw [W0.out]))
  refine (place_any w0 _ L k H1.out HS.out hl).mono ?_
  rintro e w1 ⟨rfl, s1⟩
  have HB1 := Lib.hid (HBX.out.stay0 s1)
  have HT := Lib.hid (HA.out.trans s1)
  have hm := H1.out.stay0 s1
  clear s1
  by_cases hb : hasB L k = true
  · obtain ⟨e, he, hek⟩ := hasB_at hb
    rw [if_pos hb, he] at hg
    have HG := Lib.hid hg
    have hlt := hasB_lt hb
    rw [hb]
    rcases hm with ⟨_, rfl⟩ | ⟨p, v, hpp, hc, hx⟩
    · simp at hlt
    · cases hpp
      have HX := Lib.hid hx
      obtain ⟨a0, c, rfl, hnc, hcm, _⟩ := id hx
      obtain ⟨g, o, rfl, _, hcs⟩ := hx.at (by omega)
      obtain ⟨h0, h1, h2⟩ := hcs _ e he
      have kl := Lib.hid (run_load_at h0 h1 h2)
      clear he hcs h0 h1 h2 hb hg hx
      generalize posN L k = i at *
      go_wp2_with (first
        | (refine wpList_load_run (by rfl) 42 (.tmp 22) rfl ⟨g, o + i * 3, none⟩ rfl _ kl.out ?_)
        | (refine Box.store HB1.out rfl (.tmp 4) (.tmp 23) rfl rfl e rfl ?_
           intro w3 hb3 hs3
           have H3 := Lib.hid hb3
           have HS3 := Lib.hid (stay_seal (HT.out.mono (fun _ x => x.elim) |>.trans hs3) (fun k hk => by have hk' : k = w.heap.size := hk; omega))
           clear hb3 hs3))
      have hld := H3.out.run_load
      refine bodyPost_ret (v := .tuple #[enV e, .bool true]) (by simp [results, Tryz.results65, asAddr, hld]) rfl ⟨by rw [HG.out]; rfl, HS3.out⟩
  · rw [if_neg hb] at hg
    have HG := Lib.hid hg
    have hb' : hasB L k = false := by simpa using hb
    rw [hb']
    clear hb hb' hg hm
    go_wp2_with (first
      | (refine Box.store HB1.out rfl (.tmp 4) (.tmp 16) rfl rfl ⟨[], [], false⟩ rfl ?_
         intro w3 hb3 hs3
         have H3 := Lib.hid hb3
         have HS3 := Lib.hid (stay_seal (HT.out.mono (fun _ x => x.elim) |>.trans hs3) (fun k hk => by have hk' : k = w.heap.size := hk; omega))
         clear hb3 hs3))
    have hld := H3.out.run_load
    refine bodyPost_ret (v := .tuple #[enV ⟨[], [], false⟩, .bool false]) (by simp [results, Tryz.results65, asAddr, hld]) rfl ⟨by rw [HG.out]; rfl, HS3.out⟩

set_option maxHeartbeats 4000000 in
/-- slices.Clone of entries. -/
theorem clone_en (w : World) (x : Value) (L : List En) (hx : EnS w x L) (hlen : L.length ≤ 1000000) :
    Calls Tryz.prog 104 #[x] w fun e w' => ∃ v, e = .returned v ∧ EnO w.heap.size w' v L ∧ Stay (fun _ => False) w w' := by
  have hq := @Lib.run_eql_slice_nil
  have HX := Lib.hid (hx.stay0 (Stay.alloc w (.cells #[] 42)))
  have how := Lib.hid (EnO.empty w.heap.size w (Nat.le_refl _))
  obtain ⟨a0, c, rfl, hnc, hcm, hn, hr⟩ := hx
  cases a0 with
  | none =>
    obtain rfl := hn rfl
    have hL : L = [] := List.eq_nil_of_length_eq_zero (by omega)
    subst hL
    clear HX how hn hr
    go_enter Tryz.func104, Tryz.ntmps104
    go_wp2
    go_ret
    exact ⟨_, rfl, EnO.nil _ _, Stay.refl _ _⟩
  | some ad =>
    clear hn hr
    go_enter Tryz.func104, Tryz.ntmps104
    go_wp2_with (at_builtin; refine wpList_append_en rfl (.tmp 5) (.tmp 6) 34 rfl Tryz.underlying34 (v := .slice (some ⟨w.heap.size, 0, none⟩) 0 0) rfl rfl how.out HX.out (by simp; omega) (by simp) ?_; intro v' w1 hown hgr hnn)
    go_ret
    exact ⟨v', rfl, by simpa using hown, (Stay.alloc (X := fun _ => False) w _).andThen (hgr.mono (Y := fun k => k = w.heap.size) (fun k hk => by simpa [Value.ownBlock] using hk.symm)) (fun k hk e => by omega)⟩

/-- What lies between two places of a slice. -/
theorem EnS.part {w : World} {a0 : Option Addr} {n c i j : Nat} {L : List En} (h : EnS w (.slice a0 n c) L) (hi : i ≤ j) (hj : j ≤ L.length) : EnS w (.slice (if c = i then a0 else a0.map (·.add (i * 3))) (j - i) (c - i)) ((L.drop i).take (j - i)) := by
  have h1 := h.cut (i := i) (by omega)
  exact h1.first (by rw [List.length_drop]; omega)
theorem EnS.part_cap {w : World} {ad : Addr} {n c i m : Nat} {L : List En} (h : EnS w (.slice (some ad) n c) L) (hc : c = i) (hi : i ≤ m) (hm : m ≤ L.length) : EnS w (.slice (some ad) 0 0) ((L.drop i).take (m - i)) := by
  have h1 := h.part hi hm
  obtain ⟨_, c1, e, hnc, _⟩ := h
  cases e
  have e1 : m - i = 0 := by omega
  rw [if_pos hc, e1, hc, Nat.sub_self] at h1
  rw [e1]
  exact h1
theorem EnS.part_in {w : World} {ad : Addr} {n c i m : Nat} {L : List En} (h : EnS w (.slice (some ad) n c) L) (hc : ¬ c = i) (hi : i ≤ m) (hm : m ≤ L.length) : EnS w (.slice (some (ad.add (i * 3))) (m - i) (c - i)) ((L.drop i).take (m - i)) := by
  have h1 := h.part hi hm
  rw [if_neg hc] at h1
  exact h1
theorem EnS.part_no {w : World} {ad : Addr} {n c i m : Nat} {L : List En} (h : EnS w (.slice (some ad) n c) L) (hc : ¬ c = i) (hi : i = m) (hm : m ≤ L.length) : EnS w (.slice (some (ad.add (i * 3))) 0 (c - i)) ((L.drop i).take (m - i)) := by
  have h1 := h.part_in hc (Nat.le_of_eq hi) hm
  have e1 : m - i = 0 := by omega
  rw [e1] at h1 ⊢
  exact h1
theorem drop_nil {L : List En} (h : L.length = 0) (i m : Nat) : (L.drop i).take m = [] := by
  rw [List.eq_nil_of_length_eq_zero h]
  simp
set_option maxHeartbeats 4000000 in
theorem range_any (w : World) (pv : Value) (L : List En) (a b : List UInt8) (h : MR w pv L) (hs : Sorted L) (hl : L.length ≤ 1000000) :
    Calls Tryz.prog 70 #[pv, strV a, strV b] w fun e w' => ∃ v, e = .returned v ∧ EnO w.heap.size w' v (rangeL L a b) ∧ Stay (fun _ => False) w w' := by
  have H := Lib.hid h
  have HS := Lib.hid hs
  obtain ⟨j, hj⟩ : ∃ j, j = (if b = [] then L.length else posN L b) := ⟨_, rfl⟩
  have hr := range_sorted a b hs
  rw [← hj] at hr
  have hjl : j ≤ L.length := by
    rw [hj]
    have := posN_le b L
    split <;> omega
  have hla := posN_le a L
  obtain ⟨m, hm⟩ : ∃ m, m = max (posN L a) j := ⟨_, rfl⟩
  rw [← hm] at hr
  have hmi : posN L a ≤ m := by omega
  have hml : m ≤ L.length := by omega
  have HR := Lib.hid hr
  have HM := Lib.hid hm
  have HJ := Lib.hid hj
  obtain ⟨p0, rfl⟩ := h.ptr
  clear h hs hr hm hj
  go_enter Tryz.func70, Tryz.ntmps70
  go_wp2_with fail
  refine (place_any w _ L a H.out HS.out hl).mono ?_
  rintro e w1 ⟨rfl, s1⟩
  have H1 := Lib.hid (H.out.stay0 s1)
  have HT1 := Lib.hid s1
  clear s1
  generalize posN L a = i at *
  go_wp2_with fail
  refine (len_any w1 _ L H1.out).mono ?_
  rintro e w1 ⟨rfl, rfl⟩
  by_cases hb : b = []
  · obtain rfl : j = L.length := by rw [HJ.out, if_pos hb]
    subst hb
    clear HJ
    go_wp2_with fail
    refine (all_any w1 _ L H1.out).mono ?_
    rintro e w1 ⟨x, rfl, hx, rfl⟩
    have HX := Lib.hid hx
    obtain ⟨a0, c, rfl, hnc, hcm, hn, _⟩ := hx
    cases a0 with
    | none =>
      obtain rfl := hn rfl
      obtain rfl : i = 0 := by omega
      have h0 : L.length = 0 := by omega
      have HE := Lib.hid (show EnS w1 (.slice none 0 0) ((L.drop 0).take (m - 0)) by rw [drop_nil h0]; exact EnS.nil _)
      have hJ0 : L.length = 0 := by omega
      rw [h0]
      skip
      go_wp2_with fail
      refine (clone_en w1 _ _ HE.out (by simp only [List.length_take, List.length_drop]; omega)).mono ?_
      rintro e w2 ⟨v, rfl, ho, s2⟩
      have HO := Lib.hid ho
      have HT2 := Lib.hid (HT1.out.trans s2)
      have HSZ := Lib.hid HT1.out.size
      clear ho s2
      go_wp2
      go_ret
      exact ⟨_, rfl, by rw [HR.out]; exact HO.out.rebase (fun k hk => by have := (HO.out.lt k hk).1; have := HSZ.out; omega), HT2.out⟩
    | some ad =>
      clear hn
      by_cases hci : c = i
      · have HE := Lib.hid (HX.out.part_cap hci hmi hml)
        subst hci
        go_wp2_with fail
        refine (clone_en w1 _ _ HE.out (by simp only [List.length_take, List.length_drop]; omega)).mono ?_
        rintro e w2 ⟨v, rfl, ho, s2⟩
        have HO := Lib.hid ho
        have HT2 := Lib.hid (HT1.out.trans s2)
        have HSZ := Lib.hid HT1.out.size
        clear ho s2
        go_wp2
        go_ret
        exact ⟨_, rfl, by rw [HR.out]; exact HO.out.rebase (fun k hk => by have := (HO.out.lt k hk).1; have := HSZ.out; omega), HT2.out⟩
      · by_cases hlt : i < L.length
        · obtain rfl : m = L.length := by have := HM.out; omega
          have HE := Lib.hid (HX.out.part_in hci hmi hml)
          go_wp2_with fail
          refine (clone_en w1 _ _ HE.out (by simp only [List.length_take, List.length_drop]; omega)).mono ?_
          rintro e w2 ⟨v, rfl, ho, s2⟩
          have HO := Lib.hid ho
          have HT2 := Lib.hid (HT1.out.trans s2)
          have HSZ := Lib.hid HT1.out.size
          clear ho s2
          go_wp2
          go_ret
          exact ⟨_, rfl, by rw [HR.out]; exact HO.out.rebase (fun k hk => by have := (HO.out.lt k hk).1; have := HSZ.out; omega), HT2.out⟩
        · obtain rfl : m = i := by have := HM.out; omega
          have HE := Lib.hid (HX.out.part_no hci rfl hml)
          go_wp2_with fail
          refine (clone_en w1 _ _ HE.out (by simp only [List.length_take, List.length_drop]; omega)).mono ?_
          rintro e w2 ⟨v, rfl, ho, s2⟩
          have HO := Lib.hid ho
          have HT2 := Lib.hid (HT1.out.trans s2)
          have HSZ := Lib.hid HT1.out.size
          clear ho s2
          go_wp2
          go_ret
          exact ⟨_, rfl, by rw [HR.out]; exact HO.out.rebase (fun k hk => by have := (HO.out.lt k hk).1; have := HSZ.out; omega), HT2.out⟩
  · have hj := HJ.out
    rw [if_neg hb] at hj
    obtain ⟨b0, br, rfl⟩ : ∃ b0 br, b = b0 :: br := by
      cases b with
      | nil => exact absurd rfl hb
      | cons b0 br => exact ⟨b0, br, rfl⟩
    clear HJ hb
    go_wp2_with fail
    refine (place_any w1 _ L (b0 :: br) H1.out HS.out hl).mono ?_
    rintro e w2 ⟨rfl, s1⟩
    rw [← hj]
    replace H1 := Lib.hid (H1.out.stay0 s1)
    replace HT1 := Lib.hid (HT1.out.trans s1)
    clear s1 hj
    obtain ⟨w1, rfl⟩ : ∃ w1, w1 = w2 := ⟨_, rfl⟩
    go_wp2_with fail
    refine (all_any w1 _ L H1.out).mono ?_
    rintro e w1 ⟨x, rfl, hx, rfl⟩
    have HX := Lib.hid hx
    obtain ⟨a0, c, rfl, hnc, hcm, hn, _⟩ := hx
    cases a0 with
    | none =>
      obtain rfl := hn rfl
      obtain rfl : i = 0 := by omega
      have h0 : L.length = 0 := by omega
      have HE := Lib.hid (show EnS w1 (.slice none 0 0) ((L.drop 0).take (m - 0)) by rw [drop_nil h0]; exact EnS.nil _)
      have hJ0 : j = 0 := by omega
      rw [h0]
      rw [hJ0]
      go_wp2_with fail
      refine (clone_en w1 _ _ HE.out (by simp only [List.length_take, List.length_drop]; omega)).mono ?_
      rintro e w2 ⟨v, rfl, ho, s2⟩
      have HO := Lib.hid ho
      have HT2 := Lib.hid (HT1.out.trans s2)
      have HSZ := Lib.hid HT1.out.size
      clear ho s2
      go_wp2
      go_ret
      exact ⟨_, rfl, by rw [HR.out]; exact HO.out.rebase (fun k hk => by have := (HO.out.lt k hk).1; have := HSZ.out; omega), HT2.out⟩
    | some ad =>
      clear hn
      by_cases hci : c = i
      · have HE := Lib.hid (HX.out.part_cap hci hmi hml)
        subst hci
        go_wp2_with fail
        refine (clone_en w1 _ _ HE.out (by simp only [List.length_take, List.length_drop]; omega)).mono ?_
        rintro e w2 ⟨v, rfl, ho, s2⟩
        have HO := Lib.hid ho
        have HT2 := Lib.hid (HT1.out.trans s2)
        have HSZ := Lib.hid HT1.out.size
        clear ho s2
        go_wp2
        go_ret
        exact ⟨_, rfl, by rw [HR.out]; exact HO.out.rebase (fun k hk => by have := (HO.out.lt k hk).1; have := HSZ.out; omega), HT2.out⟩
      · by_cases hlt : i < j
        · obtain rfl : m = j := by have := HM.out; omega
          have HE := Lib.hid (HX.out.part_in hci hmi hml)
          go_wp2_with fail
          refine (clone_en w1 _ _ HE.out (by simp only [List.length_take, List.length_drop]; omega)).mono ?_
          rintro e w2 ⟨v, rfl, ho, s2⟩
          have HO := Lib.hid ho
          have HT2 := Lib.hid (HT1.out.trans s2)
          have HSZ := Lib.hid HT1.out.size
          clear ho s2
          go_wp2
          go_ret
          exact ⟨_, rfl, by rw [HR.out]; exact HO.out.rebase (fun k hk => by have := (HO.out.lt k hk).1; have := HSZ.out; omega), HT2.out⟩
        · obtain rfl : m = i := by have := HM.out; omega
          have HE := Lib.hid (HX.out.part_no hci rfl hml)
          go_wp2_with fail
          refine (clone_en w1 _ _ HE.out (by simp only [List.length_take, List.length_drop]; omega)).mono ?_
          rintro e w2 ⟨v, rfl, ho, s2⟩
          have HO := Lib.hid ho
          have HT2 := Lib.hid (HT1.out.trans s2)
          have HSZ := Lib.hid HT1.out.size
          clear ho s2
          go_wp2
          go_ret
          exact ⟨_, rfl, by rw [HR.out]; exact HO.out.rebase (fun k hk => by have := (HO.out.lt k hk).1; have := HSZ.out; omega), HT2.out⟩
set_option maxHeartbeats 1000000 in
theorem range_nil (L : List En) : rangeL L [] [] = L := by
  unfold rangeL
  rw [List.filter_eq_self]
  intro e _
  simp [lt_nil]
theorem entries_any (w : World) (pv : Value) (L : List En) (h : MR w pv L) (hs : Sorted L) (hl : L.length ≤ 1000000) :
    Calls Tryz.prog 33 #[pv] w fun e w' => ∃ v, e = .returned v ∧ EnO w.heap.size w' v L ∧ Stay (fun _ => False) w w' := by
  have hr := range_any w pv L [] [] h hs hl
  rw [range_nil] at hr
  have HR := Lib.hid hr
  obtain ⟨p0, rfl⟩ := h.ptr
  clear h hs hr
  go_enter Tryz.func33, Tryz.ntmps33
  go_wp2_with fail
  refine HR.out.mono ?_
  rintro e w1 ⟨v, rfl, ho, s1⟩
  have HO := Lib.hid ho
  clear ho
  go_wp2
  go_ret
  exact ⟨_, rfl, HO.out, s1⟩
end Go.Proofs.YtljlfdhjolcnaaaGreat.Me

/-
  mem: the document's Put.
-/
namespace Go.Proofs.YtljlfdhjolcnaaaGreat.Me
open Go.RowKit Go.Maps
set_option maxRecDepth 100000
set_option linter.unusedVariables false

theorem stay_drewN {X : Nat → Prop} (w : World) (n : Nat) : Stay X w (w.drewN n) := ⟨rfl, rfl, rfl, Nat.le_refl _, fun _ _ _ => rfl⟩
theorem EnS.empty (w : World) (ad : Addr) : EnS w (.slice (some ad) 0 0) [] := ⟨_, 0, rfl, Nat.le_refl _, by decide, (fun h => by cases h), fun h => absurd h (Nat.lt_irrefl 0)⟩
end Go.Proofs.YtljlfdhjolcnaaaGreat.Me

/-
  mem: entries held against each other; entries of one's own; the document's Size, Get, Range.
-/
namespace Go.Proofs.YtljlfdhjolcnaaaGreat.Me
open Go.RowKit Go.Maps
set_option maxRecDepth 100000
set_option linter.unusedVariables false

/-- Whether two entries are one. -/
def eqE (a b : En) : Bool := a.k == b.k && a.v == b.v && a.g == b.g
theorem eqE_is (a b : En) : eqE a b = decide (a = b) := by
  obtain ⟨k, v, g⟩ := a
  obtain ⟨k', v', g'⟩ := b
  unfold eqE
  by_cases h1 : k = k' <;> by_cases h2 : v = v' <;> by_cases h3 : g = g' <;> simp [h1, h2, h3]
theorem eq_en (w : World) (a b : En) : (Op.equalIn 10000 42 (enV a) (enV b)).run Tryz.prog w = .ok (eqE a b) w := by
  have u9 := Tryz.underlying9
  have u4 := Tryz.underlying4
  unfold enV enC eqE
  go_simp
  by_cases h1 : a.k = b.k <;> by_cases h2 : a.v = b.v <;> by_cases h3 : a.g = b.g <;> simp [h1, h2, h3]

theorem eq_guard : Tryz.prog.eqGuardType Tryz.prog.depth 42 = false := by kernel_rfl
/-- A whole struct loaded, as a step of a region in the class D, behind a guard that holds. -/
theorem quiet_loadG {P : Program} {D : World → Prop} {ops : Array Oper} {rest : List Oper} {o : Oper} {a : Act} {Q : Act → Prop} (hgd : Region.wanted o (yielded ops a.tmps) = true) (ty : TypeId) (x : Operand) (ho : o.op = .load ty x) (ad : Addr) (hx : a.eval x = .pointer (some ad)) (v : Value)
    (hl : ∀ i : InC D, (loadVar ty ad).run P i.w = .ok v i.w) (h : wpQuiet P ops (fun w' => ∃ i : InC D, w' = i.w) Q rest (a.put o.dst v)) : wpQuiet P ops (fun w' => ∃ i : InC D, w' = i.w) Q (o :: rest) a := by
  refine wpQuiet_step fun K hK => ?_
  rw [if_pos hgd]
  refine ⟨v, fun w' hw => ?_, hK _ h⟩
  obtain ⟨i, rfl⟩ := hw
  unfold Oper.quietAt execOp
  simp only [ho, hx, Instr.loadAt, Instr.sureAddr, Sem.run_bind, Sem.run_pure, Result.andThen_ok, hl i]
  exact ⟨rfl, rfl⟩
theorem run_guard_en (w : World) (x y : Operand) (p q : En) : (eqGuard .neq 42 x y (enV p) (enV q)).run Tryz.prog w = .ok () w :=
  run_eqGuard_agg (P := Tryz.prog) w .neq 42 x y (enC p).toArray (enC q).toArray eq_guard
theorem run_neq_en (w : World) (p q : En) : (binOp .neq 42 (enV p) (enV q)).run Tryz.prog w = .ok (.bool (!eqE p q)) w := by
  have hb := run_neq_struct (P := Tryz.prog) w 42 (enC p).toArray (enC q).toArray
  have he := eq_en w p q
  unfold enV at he ⊢
  rw [hb, he, Result.andThen_ok]
/-- Two entries held against each other, as a step of such a region. -/
theorem quiet_neq_en {D : World → Prop} {ops : Array Oper} {rest : List Oper} {o : Oper} {a : Act} {Q : Act → Prop} (hgd : Region.wanted o (yielded ops a.tmps) = true) (x y : Operand) (ho : o.op = .binOp .neq 42 x y 42) (p q : En) (hx : a.eval x = enV p) (hy : a.eval y = enV q)
    (h : wpQuiet Tryz.prog ops (fun w' => ∃ i : InC D, w' = i.w) Q rest (a.put o.dst (.bool (!eqE p q)))) : wpQuiet Tryz.prog ops (fun w' => ∃ i : InC D, w' = i.w) Q (o :: rest) a := by
  refine wpQuiet_step fun K hK => ?_
  rw [if_pos hgd]
  refine ⟨.bool (!eqE p q), fun w' hw => ?_, hK _ h⟩
  obtain ⟨i, rfl⟩ := hw
  unfold Oper.quietAt execOp
  simp only [ho, hx, hy, Sem.run_bind, run_guard_en, run_neq_en, Result.andThen_ok]
  exact ⟨rfl, rfl⟩
/-- One entry of a slice, loaded whole in whatever world nothing of this one turned. -/
theorem EnS.load {w : World} {g o n c i : Nat} {L : List En} {e : En} (h : EnS w (.slice (some ⟨g, o, none⟩) n c) L) (he : L[i]? = some e) : (loadVar 42 ⟨g, o + i * 3, none⟩).run Tryz.prog w = .ok (enV e) w := by
  obtain ⟨g', o', e0, _, hc⟩ := h.at (by have := (List.getElem?_eq_some_iff.1 he).1; omega)
  cases e0
  obtain ⟨h0, h1, h2⟩ := hc i e he
  exact run_load_at h0 h1 h2
theorem EnS.ptr {w : World} {a0 : Option Addr} {n c i : Nat} {L : List En} {e : En} (h : EnS w (.slice a0 n c) L) (he : L[i]? = some e) : ∃ g o, a0 = some ⟨g, o, none⟩ := by
  obtain ⟨g, o, e0, _⟩ := h.at (by have := (List.getElem?_eq_some_iff.1 he).1; omega)
  exact ⟨g, o, e0⟩

set_option maxHeartbeats 4000000 in
theorem entries_eq (w : World) (x y : Value) (A B : List En) (hx : EnS w x A) (hy : EnS w y B) :
    Calls Tryz.prog 17 #[x, y] w fun e w' => e = .returned (.bool (decide (A = B))) ∧ Stay (fun _ => False) w w' := by
  have HX := Lib.hid hx
  have HY := Lib.hid hy
  obtain ⟨ax, cx, rfl, hx1, hx2, _⟩ := hx
  obtain ⟨ay, cy, rfl, hy1, hy2, _⟩ := hy
  go_enter Tryz.func17, Tryz.ntmps17
  by_cases hl : A.length = B.length
  · rw [← hl] at hy1 ⊢
    go_wp2
    go_loopw [5] (fun i wr => ∃ j : Nat, i = .int .i64 (j : Int) ∧ j ≤ A.length ∧ Hid (A.take j = B.take j) ∧ Stay (fun _ => False) w wr) (fun i _ => A.length - (intOf i).toNat)
    case atStart => exact ⟨0, rfl, Nat.zero_le _, Lib.hid (by simp), Stay.refl _ _⟩
    case round =>
      obtain ⟨j, rfl, hj, he, hst⟩ := hrel
      have HT := Lib.hid hst
      clear hst
      by_cases hlt : j < A.length
      · obtain ⟨a, ha⟩ : ∃ a, A[j]? = some a := ⟨_, List.getElem?_eq_getElem hlt⟩
        obtain ⟨b, hb⟩ : ∃ b, B[j]? = some b := ⟨_, List.getElem?_eq_getElem (by omega)⟩
        obtain ⟨g, o, rfl⟩ := HX.out.ptr ha
        obtain ⟨g', o', rfl⟩ := HY.out.ptr hb
        have k1 := Lib.hid (fun i : InC (Stay (fun _ => False) wr) => ((HX.out.stay0 (HT.out.trans i.h)).load ha))
        have k2 := Lib.hid (fun i : InC (Stay (fun _ => False) wr) => ((HY.out.stay0 (HT.out.trans i.h)).load hb))
        have HA := Lib.hid ha
        have HB := Lib.hid hb
        haveI : Nonempty (InC (Stay (fun _ => False) wr)) := ⟨⟨wr, Stay.refl _ _⟩⟩
        have HAB := Lib.hid (eqE_is a b)
        clear ha hb
        go_wp2
        refine wp_region_class (Stay (fun _ => False) wr) Stay.drew (by kernel_rfl) (by kernel_rfl) ?_
        repeat (first
          | (refine quiet_loadG (by rfl) 42 (.tmp 19) rfl ⟨g, o + j * 3, none⟩ rfl (enV a) k1.out ?_; go_frame)
          | (refine quiet_loadG (by rfl) 42 (.tmp 23) rfl ⟨g', o' + j * 3, none⟩ rfl (enV b) k2.out ?_; go_frame)
          | (refine quiet_neq_en (by rfl) (.tmp 20) (.tmp 24) rfl a b rfl rfl ?_; go_frame)
          | (go_big_quiet_step (fail)))
        refine wpQuiet_nil ?_
        rintro W ⟨i, rfl⟩
        have HI := Lib.hid i.h
        generalize i.w = w9 at *
        clear k1 k2
        cases hab : eqE a b with
        | true =>
          have hEq : a = b := by have := HAB.out; rw [hab] at this; simpa using this.symm
          have HN := Lib.hid (show A.take (j + 1) = B.take (j + 1) by rw [List.take_add_one, List.take_add_one, he.out, HA.out, HB.out, hEq])
          go_wp2
          refine ⟨⟨j + 1, by go_num, hlt, HN, HT.out.trans HI.out⟩, by simp [intOf]; omega⟩
        | false =>
          have hNe : a ≠ b := by have := HAB.out; rw [hab] at this; simpa using this.symm
          have HR := Lib.hid (show decide (A = B) = false from decide_eq_false (fun h => hNe (by have h1 := HA.out; have h2 := HB.out; rw [h, h2] at h1; exact (Option.some.inj h1).symm)))
          go_wp2
          go_ret
          exact ⟨by rw [HR.out]; rfl, HT.out.trans HI.out⟩
      · obtain rfl : j = A.length := by omega
        have HR := Lib.hid (show decide (A = B) = true from decide_eq_true (by have h1 := he.out; rw [List.take_length, hl, List.take_length] at h1; exact h1))
        go_wp2
        go_ret
        exact ⟨by rw [HR.out]; rfl, HT.out⟩
  · have HR := Lib.hid (show decide (A = B) = false from decide_eq_false (fun h => hl (by rw [h])))
    go_wp2
    go_ret
    exact ⟨by rw [HR.out]; rfl, Stay.refl _ _⟩

end Go.Proofs.YtljlfdhjolcnaaaGreat.Me

/-
  mem: what must come whatever the input is; a Mem all of whose blocks are newer than a world.
-/
namespace Go.Proofs.YtljlfdhjolcnaaaGreat.Me
open Go.RowKit Go.Maps
set_option maxRecDepth 100000
set_option linter.unusedVariables false

/-- A Mem that was made since w0. -/
def Since (w0 w : World) (p : Nat) (L : List En) : Prop := MAt (fun k => w0.heap.size ≤ k) w p L ∧ Stay (fun _ => False) w0 w
theorem Since.stay0 {w0 w w' : World} {p : Nat} {L : List En} (h : Since w0 w p L) (hs : Stay (fun _ => False) w w') : Since w0 w' p L := ⟨h.1.stay0 hs, h.2.trans hs⟩
end Go.Proofs.YtljlfdhjolcnaaaGreat.Me

/-
  mem's laws: what is put one behind the other; a Mem and the document's entries beside it.
-/
namespace Go.Proofs.YtljlfdhjolcnaaaGreat.Me
open Go.RowKit Go.Maps
set_option maxRecDepth 100000
set_option linter.unusedVariables false

/-- A Mem that was made since w0, and the same entries as the document has them. -/
structure Two (w0 w : World) (p : Nat) (v : Value) (M : List En) : Prop where
  b : ∃ B : Nat → Prop, (∀ k, B k → w0.heap.size ≤ k) ∧ MAt B w p M ∧ ∀ k, v.ownBlock = some k → ¬ B k
  o : EnO w0.heap.size w v M
  s : Stay (fun _ => False) w0 w
/-- Where the Mem is one entry ahead. -/
structure Mid (w0 w : World) (p : Nat) (v : Value) (M : List En) (e : En) : Prop where
  b : ∃ B : Nat → Prop, (∀ k, B k → w0.heap.size ≤ k) ∧ MAt B w p (putL M e)
  o : EnO w0.heap.size w v M
  s : Stay (fun _ => False) w0 w
section
variable {w0 w w' : World} {p : Nat} {v : Value} {M : List En} {e : En}
theorem Two.stay0 (h : Two w0 w p v M) (hs : Stay (fun _ => False) w w') : Two w0 w' p v M := by
  obtain ⟨B, h1, h2, h3⟩ := h.b
  exact ⟨⟨B, h1, h2.stay0 hs, h3⟩, h.o.stay0 hs, h.s.trans hs⟩
theorem Two.mr (h : Two w0 w p v M) : MR w (.pointer (some ⟨p, 0, none⟩)) M := by
  obtain ⟨B, h1, h2, h3⟩ := h.b
  exact h2.mr
theorem Two.srt (h : Two w0 w p v M) : Sorted M := by
  obtain ⟨B, h1, h2, h3⟩ := h.b
  exact h2.srt
theorem Mid.stay0 (h : Mid w0 w p v M e) (hs : Stay (fun _ => False) w w') : Mid w0 w' p v M e := by
  obtain ⟨B, h1, h2⟩ := h.b
  exact ⟨⟨B, h1, h2.stay0 hs⟩, h.o.stay0 hs, h.s.trans hs⟩
end
end Go.Proofs.YtljlfdhjolcnaaaGreat.Me

/-
  mem's laws: their arguments opened: entries, a key.
-/
namespace Go.Proofs.YtljlfdhjolcnaaaGreat.Me
open Go.ChangeShapes Go.WideShapes Go.ChangeAt Go.RowKit Go.Deep
set_option maxRecDepth 100000
set_option linter.unusedVariables false

instance : Inhabited En := ⟨⟨[], [], false⟩⟩
theorem cells_str : Tryz.prog.cellsOf 9 = 1 := by kernel_rfl
section
variable {H : Type} {enc : TypeId × Value → H}
theorem key_weight {d : DataW H} {k : List UInt8} (hd : d = .lit (.string k)) (hw : (d.weights Tryz.prog 9).all (· ≤ reachBytes) = true) : k.length ≤ 140737488351232 := by
  subst hd
  simp only [DataW.weights, List.all_cons, List.all_nil, Bool.and_true, decide_eq_true_eq] at hw
  exact hw
theorem key_cells {w : World} {fuel : Nat} {cs : List Value} {x : DataW H × List MemPlace} (h : DataW.trod enc Tryz.prog w 0 (fun _ => true) true fuel 9 cs = some x) : ∃ k : List UInt8, cs = [strV k] ∧ x.1 = .lit (.string k) ∧ k.length ≤ 9223372036854775807 := by
  obtain ⟨s, e, e2, hm⟩ := DataW.trod_string Tryz.underlying9 h
  have hl : s.data.toList.length = s.size := Array.length_toList
  exact ⟨s.data.toList, e, congrArg Prod.fst e2, by rw [hl]; unfold maxLen at hm; omega⟩
theorem weights_each {ts : List TypeId} {ds : List (DataW H)} {n : Nat} (hsz : (DataW.weightsEach Tryz.prog ts ds).all (· ≤ n) = true) {j : Nat} {t : TypeId} {d : DataW H} (ht : ts[j]? = some t) (hd : ds[j]? = some d) : (d.weights Tryz.prog t).all (· ≤ n) = true := by
  induction ts generalizing ds j with
  | nil => simp at ht
  | cons t0 ts ih =>
    cases ds with
    | nil => simp at hd
    | cons d0 ds =>
      rw [DataW.weightsEach, List.all_append, Bool.and_eq_true] at hsz
      cases j with
      | zero =>
        simp at ht hd
        subst ht hd
        exact hsz.1
      | succ j => exact ih hsz.2 (by simpa using ht) (by simpa using hd)
theorem weights_in {e : TypeId} {l : List (DataW H)} {d : DataW H} (hd : d ∈ l) {n : Nat} (h : (DataW.weightsAll Tryz.prog e l).all (· ≤ n) = true) : (d.weights Tryz.prog e).all (· ≤ n) = true := by
  induction l with
  | nil => cases hd
  | cons x r ih =>
    rw [DataW.weightsAll, List.all_append, Bool.and_eq_true] at h
    rcases List.mem_cons.1 hd with rfl | hd
    · exact h.1
    · exact ih hd h.2
end
end Go.Proofs.YtljlfdhjolcnaaaGreat.Me

