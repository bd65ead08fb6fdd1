import Derived.Test.YtahfgoafiepioaaGreatDoorRows
import Derived.Lib.Bytealg
import Derived.Test.YtahfgoafiepioaaGreatDoorHeldS
import Derived.Test.YtahfgoafiepioaaGreatDoorClass
import Derived.WalkSpells
import Derived.WalkLawsBesides
import Derived.Lib.Hide
import Derived.Deep.RegionWith
import Derived.Deep.RegionLaw
import Derived.IntWalk
import Derived.OneCell
import Derived.Laws.OwnMore
import Derived.Laws.IdiomStrings
import Derived.Laws.CopyOwn
import Derived.Maps.AppendAt
import Derived.Deep.Slices
import Derived.Lib.AppendZerosOnto
import Derived.Lib.Overlaps
import Derived.Lib.SliceRun
import Derived.SizedLaws
import Derived.ProofKit
import Derived.BigQuiet
import Derived.Deep.QuietTactic
import Derived.LoopTactic
import Derived.Laws.NewBlocks
import Derived.Great.BuildSlice
import Derived.Laws.StructEq
import Derived.Deep.Strs
import Derived.Lib.SmallJoins
import Derived.OpenShut
/-
  mem, plain: how keys are in order; entries in order of their keys; an entry laid in, found, told in a range.
-/
namespace Go.Proofs.YtahfgoafiepioaaGreatDoor.Me
set_option maxRecDepth 100000
set_option linter.unusedVariables false

/-- Whether bytes are ahead of others. -/
def ltB (p q : List UInt8) : Bool := decide (p < q)
theorem less_eq : ∀ (x y : List UInt8), Op.bytesLess x y = ltB x y
  | [], [] => by simp [Op.bytesLess, ltB]
  | _ :: _, [] => by simp [Op.bytesLess, ltB]
  | [], _ :: _ => by simp [Op.bytesLess, ltB]
  | a :: x, b :: y => by
    rw [Op.bytesLess, less_eq x y]
    unfold ltB
    simp only [List.cons_lt_cons_iff]
    by_cases h1 : a < b <;> by_cases h2 : a = b <;> by_cases h3 : x < y <;> simp [h1, h2, h3]
theorem cmp_lt : ∀ (x y : List UInt8), decide (Lib.compareBytes x y < 0) = ltB x y
  | [], [] => by simp [Lib.compareBytes, ltB]
  | _ :: _, [] => by simp [Lib.compareBytes, ltB]
  | [], _ :: _ => by simp [Lib.compareBytes, ltB]
  | a :: x, b :: y => by
    have ih := cmp_lt x y
    unfold ltB at ih ⊢
    unfold Lib.compareBytes
    by_cases h1 : a < b
    · simp [h1, List.cons_lt_cons_iff]
    · by_cases h2 : b < a
      · have h3 : a ≠ b := by rintro rfl; exact h1 h2
        simp [h1, h2, h3, List.cons_lt_cons_iff]
      · have h3 : a = b := UInt8.le_antisymm (UInt8.not_lt.1 h2) (UInt8.not_lt.1 h1)
        subst h3
        simp only [h1, if_false, List.cons_lt_cons_iff, false_or, true_and]
        exact ih
theorem cmp_eq0 : ∀ (x y : List UInt8), decide (Lib.compareBytes x y = 0) = (x == y)
  | [], [] => by simp [Lib.compareBytes]
  | _ :: _, [] => by simp [Lib.compareBytes]
  | [], _ :: _ => by simp [Lib.compareBytes]
  | a :: x, b :: y => by
    have ih := cmp_eq0 x y
    unfold Lib.compareBytes
    by_cases h1 : a < b
    · have h3 : a ≠ b := by rintro rfl; exact UInt8.lt_irrefl _ h1
      simp [h1, h3]
    · by_cases h2 : b < a
      · have h3 : a ≠ b := by rintro rfl; exact h1 h2
        simp [h1, h2, h3]
      · have h3 : a = b := UInt8.le_antisymm (UInt8.not_lt.1 h2) (UInt8.not_lt.1 h1)
        subst h3
        simp only [h1, if_false]
        simpa using ih
theorem cmp_i64 (x y : List UInt8) : -1 ≤ Lib.compareBytes x y ∧ Lib.compareBytes x y ≤ 1 := by
  induction x generalizing y with
  | nil => cases y <;> simp [Lib.compareBytes]
  | cons a x ih =>
    cases y with
    | nil => simp [Lib.compareBytes]
    | cons b y =>
      unfold Lib.compareBytes
      split
      · omega
      · split
        · omega
        · exact ih y
theorem lt_self (p : List UInt8) : ltB p p = false := by simp [ltB]
theorem lt_asymm {p q : List UInt8} (h : ltB p q = true) : ltB q p = false := by
  unfold ltB at *
  simp only [decide_eq_true_eq, decide_eq_false_iff_not] at *
  exact List.lt_asymm h
theorem lt_one {p q : List UInt8} (h1 : ltB p q = false) (h2 : ltB q p = false) : p = q := by
  unfold ltB at h1 h2
  exact List.le_antisymm (List.not_lt.1 (of_decide_eq_false h2)) (List.not_lt.1 (of_decide_eq_false h1))
theorem lt_trans {p q r : List UInt8} (h1 : ltB p q = true) (h2 : ltB q r = true) : ltB p r = true := by
  unfold ltB at *
  simp only [decide_eq_true_eq] at *
  exact List.lt_trans h1 h2
theorem lt_le {p q r : List UInt8} (h1 : ltB p q = true) (h2 : ltB r q = false) : ltB p r = true := by
  cases h : ltB p r with
  | true => rfl
  | false =>
    cases h3 : ltB r p with
    | true => rw [lt_trans h3 h1] at h2; cases h2
    | false => rw [lt_one h h3] at h1; rw [h1] at h2; cases h2
theorem le_lt {p q r : List UInt8} (h1 : ltB q p = false) (h2 : ltB q r = true) : ltB p r = true := by
  cases h : ltB p q with
  | true => exact lt_trans h h2
  | false => rw [lt_one h h1]; exact h2
theorem lt_ne {p q : List UInt8} (h : ltB p q = true) : p ≠ q := by
  rintro rfl
  rw [lt_self] at h
  cases h
theorem lt_nil (p : List UInt8) : ltB p [] = false := by simp [ltB]

/-- An entry. -/
structure En where
  k : List UInt8
  v : List UInt8
  g : Bool
deriving DecidableEq
/-- One that is gone has no value. -/
def norm (e : En) : En := if e.g then ⟨e.k, [], true⟩ else e
theorem norm_k (e : En) : (norm e).k = e.k := by unfold norm; split <;> rfl
theorem norm_g (e : En) : (norm e).g = e.g := by
  unfold norm
  split
  · rename_i h; exact h.symm
  · rfl
theorem norm_v (e : En) : (norm e).v = if e.g then [] else e.v := by unfold norm; split <;> rfl
theorem norm_len (e : En) : (norm e).v.length ≤ e.v.length := by rw [norm_v]; split <;> simp

/-- How many, from the first on, are ahead of a key. -/
def posN : List En → List UInt8 → Nat
  | [], _ => 0
  | e :: r, k => if ltB e.k k then posN r k + 1 else 0
theorem posN_le (k : List UInt8) : ∀ L : List En, posN L k ≤ L.length
  | [] => Nat.le_refl _
  | e :: r => by
    have := posN_le k r
    unfold posN
    split
    · simp; omega
    · omega
theorem posN_lt (k : List UInt8) : ∀ (L : List En) (t : Nat), t < posN L k → ∀ e, L[t]? = some e → ltB e.k k = true
  | [], t, h, e, _ => by simp [posN] at h
  | x :: r, t, h, e, he => by
    unfold posN at h
    by_cases hx : ltB x.k k = true
    · rw [if_pos hx] at h
      cases t with
      | zero => simp at he; rw [← he]; exact hx
      | succ t => exact posN_lt k r t (by omega) e (by simpa using he)
    · rw [if_neg hx] at h; omega
theorem posN_at (k : List UInt8) : ∀ (L : List En) (e : En), L[posN L k]? = some e → ltB e.k k = false
  | [], e, h => by simp at h
  | x :: r, e, h => by
    unfold posN at h
    by_cases hx : ltB x.k k = true
    · rw [if_pos hx] at h
      exact posN_at k r e (by simpa using h)
    · rw [if_neg hx] at h
      simp at h
      rw [← h]
      simpa using hx
theorem posN_is (k : List UInt8) : ∀ (L : List En) (i : Nat), i ≤ L.length → (∀ t, t < i → ∀ e, L[t]? = some e → ltB e.k k = true) → (∀ e, L[i]? = some e → ltB e.k k = false) → posN L k = i
  | [], i, hi, _, _ => by simp at hi; simp [posN, hi]
  | x :: r, 0, _, _, h2 => by
    unfold posN
    rw [if_neg]
    simp [h2 x rfl]
  | x :: r, i + 1, hi, h1, h2 => by
    unfold posN
    rw [if_pos (h1 0 (by omega) x rfl), posN_is k r i (by simpa using hi) (fun t ht e he => h1 (t + 1) (by omega) e (by simpa using he)) (fun e he => h2 e (by simpa using he))]

/-- Whether a key is there. -/
def hasB (L : List En) (k : List UInt8) : Bool := match L[posN L k]? with
  | some e => e.k == k
  | none => false
/-- An entry laid in. -/
def putL (L : List En) (e : En) : List En := L.take (posN L e.k) ++ norm e :: L.drop (if hasB L e.k then posN L e.k + 1 else posN L e.k)
/-- A key's entry. -/
def getL (L : List En) (k : List UInt8) : Option En := L.find? (fun e => e.k == k)
/-- In order of their keys, each once. -/
def Sorted (L : List En) : Prop := L.Pairwise fun a b => ltB a.k b.k = true
/-- Those from one key on, up to another one. -/
def rangeL (L : List En) (a b : List UInt8) : List En := L.filter fun e => !ltB e.k a && (b == [] || ltB e.k b)
/-- How many bytes. -/
def sizeL : List En → Nat
  | [] => 0
  | e :: r => e.k.length + e.v.length + sizeL r
theorem sizeL_append (A B : List En) : sizeL (A ++ B) = sizeL A + sizeL B := by
  induction A with
  | nil => simp [sizeL]
  | cons e r ih => simp only [List.cons_append, sizeL, ih]; omega
theorem sizeL_snoc (A : List En) (e : En) : sizeL (A ++ [e]) = sizeL A + (e.k.length + e.v.length) := by rw [sizeL_append]; simp [sizeL]

theorem hasB_lt {L : List En} {k : List UInt8} (h : hasB L k = true) : posN L k < L.length := by
  unfold hasB at h
  split at h
  · rename_i e he; exact (List.getElem?_eq_some_iff.1 he).1
  · cases h
theorem length_putL (L : List En) (e : En) : (putL L e).length = if hasB L e.k then L.length else L.length + 1 := by
  have := posN_le e.k L
  unfold putL
  rw [List.length_append, List.length_take, List.length_cons, List.length_drop]
  by_cases h : hasB L e.k = true
  · have := hasB_lt h
    simp only [h, if_true]
    omega
  · simp only [h]
    simp
    omega
theorem length_putL_le (L : List En) (e : En) : (putL L e).length ≤ L.length + 1 := by rw [length_putL]; split <;> omega

theorem sorted_tail {e : En} {r : List En} (h : Sorted (e :: r)) : Sorted r := (List.pairwise_cons.1 h).2
theorem sorted_head {e : En} {r : List En} (h : Sorted (e :: r)) : ∀ x ∈ r, ltB e.k x.k = true := (List.pairwise_cons.1 h).1
theorem sorted_nil : Sorted [] := List.Pairwise.nil
theorem sorted_at {L : List En} (h : Sorted L) {i j : Nat} (hij : i < j) {a b : En} (ha : L[i]? = some a) (hb : L[j]? = some b) : ltB a.k b.k = true := by
  obtain ⟨h1, rfl⟩ := List.getElem?_eq_some_iff.1 ha
  obtain ⟨h2, rfl⟩ := List.getElem?_eq_some_iff.1 hb
  exact List.pairwise_iff_getElem.1 h i j h1 h2 hij
/-- What is not ahead of a key stands behind all that is. -/
theorem sorted_from {L : List En} (h : Sorted L) (k : List UInt8) : ∀ i, posN L k ≤ i → ∀ e, L[i]? = some e → ltB e.k k = false := by
  intro i hi e he
  have hl := (List.getElem?_eq_some_iff.1 he).1
  obtain ⟨x, hx⟩ : ∃ x, L[posN L k]? = some x := ⟨_, List.getElem?_eq_getElem (by omega)⟩
  have h0 := posN_at k L x hx
  by_cases e0 : posN L k = i
  · subst e0
    rw [hx] at he
    cases he
    exact h0
  · have h1 := sorted_at h (show posN L k < i by omega) hx he
    cases h2 : ltB e.k k with
    | false => rfl
    | true => rw [lt_trans h1 h2] at h0; cases h0
theorem hasB_at {L : List En} {k : List UInt8} (h : hasB L k = true) : ∃ e, L[posN L k]? = some e ∧ e.k = k := by
  unfold hasB at h
  split at h
  · rename_i e he
    exact ⟨e, he, by simpa using h⟩
  · cases h
theorem hasB_not {L : List En} {k : List UInt8} (h : hasB L k = false) {e : En} (he : L[posN L k]? = some e) : e.k ≠ k := by
  unfold hasB at h
  rw [he] at h
  simpa using h

theorem find_append {α : Type} (p : α → Bool) (A B : List α) (h : ∀ x ∈ A, p x = false) : (A ++ B).find? p = B.find? p := by
  induction A with
  | nil => rfl
  | cons a r ih => rw [List.cons_append, List.find?_cons, h a (by simp)]; exact ih (fun x hx => h x (by simp [hx]))
theorem find_none {α : Type} (p : α → Bool) (A : List α) (h : ∀ x ∈ A, p x = false) : A.find? p = none := by
  have := find_append p A [] h
  simpa using this

theorem take_lt {L : List En} {k : List UInt8} : ∀ x ∈ L.take (posN L k), ltB x.k k = true := by
  intro x hx
  obtain ⟨t, ht, rfl⟩ := List.getElem_of_mem hx
  rw [List.length_take] at ht
  exact posN_lt k L t (by omega) _ (by rw [List.getElem_take]; exact List.getElem?_eq_getElem (by omega))
theorem drop_ge {L : List En} (h : Sorted L) {k : List UInt8} {i : Nat} (hi : posN L k ≤ i) : ∀ x ∈ L.drop i, ltB x.k k = false := by
  intro x hx
  obtain ⟨t, ht, rfl⟩ := List.getElem_of_mem hx
  rw [List.length_drop] at ht
  refine sorted_from h k (i + t) (by omega) _ ?_
  rw [List.getElem_drop]
  exact List.getElem?_eq_getElem (by omega)
/-- What stands behind the key's place, but for the key itself. -/
theorem drop_gt {L : List En} (h : Sorted L) (k : List UInt8) : ∀ x ∈ L.drop (if hasB L k then posN L k + 1 else posN L k), ltB k x.k = true := by
  intro x hx
  have hge : ltB x.k k = false := drop_ge h (by split <;> omega) x hx
  cases hl : ltB k x.k with
  | true => rfl
  | false =>
    exfalso
    have hk := lt_one hge hl
    obtain ⟨t, ht, rfl⟩ := List.getElem_of_mem hx
    rw [List.length_drop] at ht
    rw [List.getElem_drop] at hk
    by_cases hb : hasB L k = true
    · simp only [hb, if_true] at hk ht
      obtain ⟨e, he, hek⟩ := hasB_at hb
      have := sorted_at h (show posN L k < posN L k + 1 + t by omega) he (List.getElem?_eq_getElem (by omega))
      rw [hek, hk, lt_self] at this
      cases this
    · simp only [Bool.not_eq_true] at hb
      simp only [hb, Bool.false_eq_true, if_false] at hk ht
      obtain ⟨y, hy⟩ : ∃ y, L[posN L k]? = some y := ⟨_, List.getElem?_eq_getElem (by omega)⟩
      have hne := hasB_not hb hy
      cases t with
      | zero =>
        have : L[posN L k + 0] = y := by
          obtain ⟨_, e⟩ := List.getElem?_eq_some_iff.1 hy
          exact e
        rw [this] at hk
        exact hne hk
      | succ t =>
        have h2 := sorted_at h (show posN L k < posN L k + (t + 1) by omega) hy (List.getElem?_eq_getElem (by omega))
        rw [hk] at h2
        rw [posN_at k L y hy] at h2
        cases h2
theorem sorted_put {L : List En} (h : Sorted L) (e : En) : Sorted (putL L e) := by
  unfold putL
  have h1 : Sorted (L.take (posN L e.k)) := List.Pairwise.sublist (List.take_sublist _ _) h
  have h2 : Sorted (L.drop (if hasB L e.k then posN L e.k + 1 else posN L e.k)) := List.Pairwise.sublist (List.drop_sublist _ _) h
  refine List.pairwise_append.2 ⟨h1, List.pairwise_cons.2 ⟨fun x hx => ?_, h2⟩, fun x hx y hy => ?_⟩
  · rw [norm_k]; exact drop_gt h e.k x hx
  · rcases List.mem_cons.1 hy with rfl | hy
    · rw [norm_k]; exact take_lt x hx
    · exact lt_trans (take_lt x hx) (drop_gt h e.k y hy)
theorem getL_sorted {L : List En} (h : Sorted L) (k : List UInt8) : getL L k = if hasB L k then L[posN L k]? else none := by
  have e0 : L = L.take (posN L k) ++ L.drop (posN L k) := (List.take_append_drop _ _).symm
  have e1 : getL L k = (L.drop (posN L k)).find? (fun e => e.k == k) := by
    conv => lhs; rw [getL, e0]
    exact find_append _ _ _ (fun x hx => by simpa using lt_ne (take_lt x hx))
  rw [e1]
  by_cases hb : hasB L k = true
  · rw [if_pos hb]
    obtain ⟨e, he, hek⟩ := hasB_at hb
    obtain ⟨h1, h2⟩ := List.getElem?_eq_some_iff.1 he
    rw [List.drop_eq_getElem_cons h1, List.find?_cons, h2, he]
    simp [hek]
  · rw [if_neg hb]
    refine find_none _ _ (fun x hx => ?_)
    have := drop_gt h k x (by rw [if_neg hb]; exact hx)
    have h3 := lt_ne this
    simpa using fun h => h3 h.symm
theorem get_put {L : List En} (h : Sorted L) (e : En) (k : List UInt8) : getL (putL L e) k = if e.k = k then some (norm e) else getL L k := by
  by_cases hk : e.k = k
  · rw [if_pos hk]
    subst hk
    unfold getL putL
    rw [find_append _ _ _ (fun x hx => by simpa using lt_ne (take_lt x hx)), List.find?_cons]
    simp [norm_k]
  · rw [if_neg hk]
    have e1 : getL L k = (L.take (posN L e.k) ++ L.drop (if hasB L e.k then posN L e.k + 1 else posN L e.k)).find? (fun e => e.k == k) := by
      by_cases hb : hasB L e.k = true
      · obtain ⟨x, hx, hxk⟩ := hasB_at hb
        obtain ⟨h1, h2⟩ := List.getElem?_eq_some_iff.1 hx
        rw [if_pos hb]
        conv => lhs; rw [getL, ← List.take_append_drop (posN L e.k) L, List.drop_eq_getElem_cons h1, h2]
        have : (x.k == k) = false := by simpa [hxk] using hk
        rw [List.find?_append, List.find?_append, List.find?_cons, this]
      · rw [if_neg hb, List.take_append_drop]
        rfl
    rw [e1]
    unfold getL putL
    have : ((norm e).k == k) = false := by simpa [norm_k] using hk
    rw [List.find?_append, List.find?_append, List.find?_cons, this]

theorem getL_mem {L : List En} (h : Sorted L) (e : En) : e ∈ L ↔ getL L e.k = some e := by
  constructor
  · intro he
    induction L with
    | nil => cases he
    | cons a r ih =>
      unfold getL
      rw [List.find?_cons]
      rcases List.mem_cons.1 he with rfl | hr
      · simp
      · have h1 := sorted_head h e hr
        have : (a.k == e.k) = false := by simpa using lt_ne h1
        rw [this]
        exact ih (sorted_tail h) hr
  · intro he
    exact List.mem_of_find?_eq_some he
theorem sorted_ext : ∀ {A B : List En}, Sorted A → Sorted B → (∀ e, e ∈ A ↔ e ∈ B) → A = B
  | [], [], _, _, _ => rfl
  | [], b :: B, _, _, h => by have := (h b).2 (by simp); cases this
  | a :: A, [], _, _, h => by have := (h a).1 (by simp); cases this
  | a :: A, b :: B, hA, hB, h => by
    have hab : a = b := by
      rcases List.mem_cons.1 ((h a).1 (by simp)) with e | h1
      · exact e
      · rcases List.mem_cons.1 ((h b).2 (by simp)) with e | h2
        · exact e.symm
        · have h3 := sorted_head hB a h1
          have h4 := sorted_head hA b h2
          rw [lt_asymm h3] at h4
          cases h4
    subst hab
    congr 1
    refine sorted_ext (sorted_tail hA) (sorted_tail hB) (fun e => ⟨fun he => ?_, fun he => ?_⟩)
    · rcases List.mem_cons.1 ((h e).1 (by simp [he])) with rfl | h1
      · have := sorted_head hA e he
        rw [lt_self] at this
        cases this
      · exact h1
    · rcases List.mem_cons.1 ((h e).2 (by simp [he])) with rfl | h1
      · have := sorted_head hB e he
        rw [lt_self] at this
        cases this
      · exact h1
theorem get_ext {A B : List En} (hA : Sorted A) (hB : Sorted B) (h : ∀ k, getL A k = getL B k) : A = B :=
  sorted_ext hA hB (fun e => by rw [getL_mem hA, getL_mem hB, h])

theorem filter_none {α : Type} (p : α → Bool) (A : List α) (h : ∀ x ∈ A, p x = false) : A.filter p = [] := List.filter_eq_nil_iff.2 (fun x hx => by simp [h x hx])
theorem range_sorted (a b : List UInt8) : ∀ {L : List En}, Sorted L → rangeL L a b = (L.drop (posN L a)).take (max (posN L a) (if b = [] then L.length else posN L b) - posN L a)
  | [], _ => by simp [rangeL, posN]
  | e :: r, h => by
    have ih := range_sorted a b (sorted_tail h)
    have hh := sorted_head h
    unfold rangeL at ih ⊢
    by_cases h1 : ltB e.k a = true
    · have e1 : posN (e :: r) a = posN r a + 1 := by simp [posN, h1]
      rw [e1, List.filter_cons_of_neg (by simp [h1]), List.drop_succ_cons, ih]
      by_cases hb : b = []
      · simp only [hb, if_true, List.length_cons]
        congr 1
        omega
      · simp only [hb, if_false]
        by_cases h2 : ltB e.k b = true
        · simp only [posN, h2, if_true]
          congr 1
          omega
        · have e2 : posN (e :: r) b = 0 := by simp [posN, h2]
          have e3 : posN r b = 0 := by
            refine posN_is b r 0 (by omega) (fun t ht => by omega) (fun x hx => ?_)
            cases h3 : ltB x.k b with
            | false => rfl
            | true => exact absurd (lt_trans (hh x (List.mem_of_getElem? hx)) h3) h2
          rw [e2, e3]
          simp
    · have h1' : ltB e.k a = false := by simpa using h1
      have e1 : posN (e :: r) a = 0 := by simp [posN, h1']
      have e1r : posN r a = 0 := by
        refine posN_is a r 0 (by omega) (fun t ht => by omega) (fun x hx => ?_)
        cases h3 : ltB x.k a with
        | false => rfl
        | true => exact absurd (lt_trans (hh x (List.mem_of_getElem? hx)) h3) h1
      rw [e1, List.drop_zero, Nat.sub_zero, Nat.zero_max]
      rw [e1r, List.drop_zero, Nat.sub_zero, Nat.zero_max] at ih
      by_cases hb : b = []
      · rw [List.filter_cons_of_pos (by simp [h1', hb]), ih]
        simp [hb]
      · by_cases h2 : ltB e.k b = true
        · rw [List.filter_cons_of_pos (by simp [h1', h2]), ih]
          simp [hb, posN, h2]
        · have e2 : posN (e :: r) b = 0 := by simp [posN, h2]
          simp only [hb, if_false, e2, List.take_zero]
          refine filter_none _ _ (fun x hx => ?_)
          have : ltB x.k b = false := by
            rcases List.mem_cons.1 hx with rfl | hx
            · simpa using h2
            · cases h3 : ltB x.k b with
              | false => rfl
              | true => exact absurd (lt_trans (hh x hx) h3) h2
          simp [this, hb]
end Go.Proofs.YtahfgoafiepioaaGreatDoor.Me

/-
  mem: entries in memory: slices that read as entries, and the call's own; a map of entries behind a pointer; whole entries loaded, appended, copied.
-/
namespace Go.Proofs.YtahfgoafiepioaaGreatDoor.Me
open Go.RowKit Go.Maps
set_option maxRecDepth 100000
set_option linter.unusedVariables false

abbrev strV (b : List UInt8) : Value := .string ⟨b.toArray⟩
def enC (e : En) : List Value := [strV e.k, strV e.v, .bool e.g]
def enV (e : En) : Value := .agg (enC e).toArray
theorem length_enC (e : En) : (enC e).length = 3 := rfl
theorem one_enC (e : En) : ∀ u ∈ enC e, u.oneCell' = true := by
  intro u hu
  simp [enC] at hu
  rcases hu with rfl | rfl | rfl <;> rfl
def enRows (L : List En) : List Value := L.flatMap enC
theorem enRows_append (A B : List En) : enRows (A ++ B) = enRows A ++ enRows B := by simp [enRows]
theorem enRows_cons (e : En) (r : List En) : enRows (e :: r) = enC e ++ enRows r := by simp [enRows]
theorem length_enRows : ∀ L : List En, (enRows L).length = L.length * 3
  | [] => rfl
  | e :: r => by
    have := length_enRows r
    rw [enRows_cons, List.length_append, this, length_enC, List.length_cons]
    omega
theorem enRows_get {e : En} {j : Nat} (hj : j < 3) : ∀ (L : List En) (i : Nat), L[i]? = some e → (enRows L)[i * 3 + j]? = (enC e)[j]?
  | [], i, h => by simp at h
  | x :: L, 0, h => by
    simp at h
    subst h
    rw [enRows_cons, List.getElem?_append_left (by rw [length_enC]; omega), Nat.zero_mul, Nat.zero_add]
  | x :: L, i + 1, h => by
    have ih := enRows_get hj L i (by simpa using h)
    rw [enRows_cons, List.getElem?_append_right (by rw [length_enC]; omega), length_enC, ← ih]
    congr 1
    omega
theorem enRows_take : ∀ (L : List En) (i : Nat), i ≤ L.length → (enRows L).take (i * 3) = enRows (L.take i)
  | L, 0, _ => by simp [enRows]
  | [], i + 1, h => by simp at h
  | e :: r, i + 1, h => by
    rw [enRows_cons, List.take_succ_cons, enRows_cons, List.take_append, length_enC, List.take_of_length_le (by rw [length_enC]; omega), show (i + 1) * 3 - 3 = i * 3 by omega, enRows_take r i (by simpa using h)]
theorem enRows_drop : ∀ (L : List En) (i : Nat), i ≤ L.length → (enRows L).drop (i * 3) = enRows (L.drop i)
  | L, 0, _ => by simp
  | [], i + 1, h => by simp at h
  | e :: r, i + 1, h => by
    rw [enRows_cons, List.drop_succ_cons, List.drop_append, length_enC, List.drop_eq_nil_of_le (by rw [length_enC]; omega), show (i + 1) * 3 - 3 = i * 3 by omega, enRows_drop r i (by simpa using h), List.nil_append]
theorem one_enRows (L : List En) : ∀ u ∈ enRows L, u.oneCell' = true := by
  intro u hu
  obtain ⟨e, _, he⟩ := List.mem_flatMap.1 hu
  exact one_enC e u he
/-- The cells of entries, each by its number. -/
theorem enRows_all {w : World} {g o : Nat} {L : List En} (h : ∀ i e, L[i]? = some e → ∀ j u, (enC e)[j]? = some u → w.cell? ⟨g, o + i * 3 + j, none⟩ = some u) : ∀ j u, (enRows L)[j]? = some u → w.cell? ⟨g, o + j, none⟩ = some u := by
  intro j u hu
  have hj := (List.getElem?_eq_some_iff.1 hu).1
  rw [length_enRows] at hj
  obtain ⟨e, he⟩ : ∃ e, L[j / 3]? = some e := ⟨_, List.getElem?_eq_getElem (by omega)⟩
  have h1 := enRows_get (e := e) (j := j % 3) (by omega) L (j / 3) he
  rw [show j / 3 * 3 + j % 3 = j by omega, hu] at h1
  have := h _ e he _ u h1.symm
  rw [show o + j / 3 * 3 + j % 3 = o + j by omega] at this
  exact this

/-- A slice that reads as entries. -/
def EnS (w : World) (x : Value) (L : List En) : Prop :=
  ∃ a0 c, x = .slice a0 L.length c ∧ L.length ≤ c ∧ c ≤ 9223372036854775807 ∧ (a0 = none → c = 0) ∧ (0 < L.length → ∃ g o, a0 = some ⟨g, o, none⟩ ∧ ∀ i e, L[i]? = some e → ∀ j u, (enC e)[j]? = some u → w.cell? ⟨g, o + i * 3 + j, none⟩ = some u)
section
variable {w w' : World} {x : Value} {L : List En} {X : Nat → Prop}
theorem EnS.stay (h : EnS w x L) (hs : Stay X w w') (hx : ∀ k, x.ownBlock = some k → ¬ X k) : EnS w' x L := by
  obtain ⟨a0, c, rfl, h1, h2, h3, h4⟩ := h
  refine ⟨a0, c, rfl, h1, h2, h3, fun h0 => ?_⟩
  obtain ⟨g, o, rfl, hc⟩ := h4 h0
  exact ⟨g, o, rfl, fun i e he j u hu => hs.cell (hc i e he j u hu) (hx g rfl)⟩
theorem EnS.stay0 (h : EnS w x L) (hs : Stay (fun _ => False) w w') : EnS w' x L := h.stay hs (fun _ _ x => x)
theorem EnS.nil (w : World) : EnS w (.slice none 0 0) [] := ⟨none, 0, rfl, Nat.le_refl _, by decide, fun _ => rfl, fun h => absurd h (Nat.lt_irrefl 0)⟩
theorem EnS.form (h : EnS w x L) : ∃ a c, x = .slice a L.length c := by
  obtain ⟨a0, c, e, _⟩ := h
  exact ⟨a0, c, e⟩
theorem EnS.at {a0 : Option Addr} {n c : Nat} (h : EnS w (.slice a0 n c) L) (h0 : 0 < L.length) : ∃ g o, a0 = some ⟨g, o, none⟩ ∧ g < w.heap.size ∧ ∀ i e, L[i]? = some e → w.cell? ⟨g, o + i * 3, none⟩ = some (strV e.k) ∧ w.cell? ⟨g, o + i * 3 + 1, none⟩ = some (strV e.v) ∧ w.cell? ⟨g, o + i * 3 + 2, none⟩ = some (.bool e.g) := by
  obtain ⟨a1, c1, e, h1, h2, h3, h4⟩ := h
  cases e
  obtain ⟨g, o, rfl, hc⟩ := h4 h0
  obtain ⟨e, he⟩ : ∃ e, L[0]? = some e := ⟨_, List.getElem?_eq_getElem h0⟩
  exact ⟨g, o, rfl, World.block_lt_of_cell? w _ (hc 0 e he 0 _ rfl), fun i e he => ⟨hc i e he 0 _ rfl, hc i e he 1 _ rfl, hc i e he 2 _ rfl⟩⟩
/-- The first entries. -/
theorem EnS.first {a0 : Option Addr} {n c i : Nat} (h : EnS w (.slice a0 n c) L) (hi : i ≤ L.length) : EnS w (.slice a0 i c) (L.take i) := by
  obtain ⟨a1, c1, e, h1, h2, h3, h4⟩ := h
  cases e
  have hl : (L.take i).length = i := by rw [List.length_take]; omega
  refine ⟨a0, c, by rw [hl], by omega, h2, h3, fun h0 => ?_⟩
  obtain ⟨g, o, rfl, hc⟩ := h4 (by omega)
  refine ⟨g, o, rfl, fun t e he => hc t e ?_⟩
  rw [List.getElem?_take] at he
  split at he
  · exact he
  · cases he
/-- Those behind i entries. -/
theorem EnS.cut {a0 : Option Addr} {n c i : Nat} (h : EnS w (.slice a0 n c) L) (hi : i ≤ L.length) : EnS w (.slice (if c = i then a0 else a0.map (·.add (i * 3))) (n - i) (c - i)) (L.drop i) := by
  obtain ⟨a1, c1, e, h1, h2, h3, h4⟩ := h
  cases e
  refine ⟨_, c - i, by rw [List.length_drop], by rw [List.length_drop]; omega, by omega, fun e => ?_, fun h0 => ?_⟩
  · split at e
    · omega
    · cases a0 with
      | none => have := h3 rfl; omega
      | some ad => cases e
  · rw [List.length_drop] at h0
    obtain ⟨g, o, rfl, hc⟩ := h4 (by omega)
    rw [if_neg (by omega)]
    refine ⟨g, o + i * 3, by rw [Option.map_some, add_at], fun t e he j u hu => ?_⟩
    rw [List.getElem?_drop] at he
    have := hc (i + t) e he j u hu
    rw [show o + (i + t) * 3 + j = o + i * 3 + t * 3 + j by omega] at this
    exact this
end

/-- The entry of nothing. -/
def zeroV : Value := .agg #[.string ⟨#[]⟩, .string ⟨#[]⟩, .bool false]
theorem zero_is : zeroV = enV ⟨[], [], false⟩ := rfl
theorem info_en : (Tryz.prog.info? 27).map (fun i => (i.zero, i.size, i.bytes)) = some (some zeroV, 3, 40) := by kernel_rfl
theorem zero_en (w : World) : (zeroValue 27).run Tryz.prog w = .ok zeroV w := by kernel_rfl
theorem size_en : (Tryz.prog.info? 27).map (·.size) = some 3 := by
  obtain ⟨i0, hi, _, h, _⟩ := info_parts info_en
  rw [hi]
  simp [h]
theorem sizeOf_en (w : World) : (sizeOf 27).run Tryz.prog w = .ok 3 w := by
  obtain ⟨i0, hi, _, h, _⟩ := info_parts info_en
  simp [sizeOf, typeInfo, hi, h]

section
variable {P : Program}
theorem run_loadVar_at (w : World) (ad : Addr) (ty : TypeId) (cs : List Value) (d : TypeDesc)
    (hu : P.underlying ty = some d) (hd : (match d with | .struct _ | .array _ _ => true | _ => false) = true) (hi : (P.info? ty).map (·.size) = some cs.length)
    (hcs : ∀ j v, cs[j]? = some v → w.cell? (ad.add j) = some v) :
    (loadVar ty ad).run P w = .ok (.agg cs.toArray) w := by
  have hl : (loadCells ad cs.length).run P w = .ok cs.toArray w := run_loadCells_list (P := P) w ad cs hcs
  cases hq : P.info? ty with
  | none => simp [hq] at hi
  | some i =>
    have hs : i.size = cs.length := by simpa [hq] using hi
    have hagg : (isAgg ty).run P w = .ok true w := by
      unfold isAgg
      rw [Sem.run_bind, run_underlying hu w]
      cases d <;> simp_all
    simp [loadVar, Sem.run_bind, hagg, sizeOf, typeInfo, hq, hs, hl]
theorem wpList_wanted {ops : Array Oper} {rest : List Oper} {o : Oper} {a : Act} {w : World} {Q : Exit → Act → World → Prop} (hw : Region.wanted o (yielded ops a.tmps) = true) (h : o.wp P a w (wpList P ops Q rest) Q) : wpList P ops Q (o :: rest) a w := by
  unfold wpList
  rw [if_pos hw]
  exact .inl h
/-- A whole struct loaded, whatever holds of the guard, by its run. -/
theorem wpList_load_run {ops : Array Oper} {rest : List Oper} {o : Oper} {a : Act} {w : World} {Q : Exit → Act → World → Prop} (hw : Region.wanted o (yielded ops a.tmps) = true) (ty : TypeId) (x : Operand) (ho : o.op = .load ty x)
    (ad : Addr) (hx : a.eval x = .pointer (some ad)) (v : Value) (hl : (loadVar ty ad).run P w = .ok v w)
    (hn : wpList P ops Q rest (a.put o.dst v) w) : wpList P ops Q (o :: rest) a w := by
  refine wpList_wanted hw ?_
  unfold Oper.wp execOp
  simp only [ho, hx, Instr.loadAt, Instr.sureAddr, Sem.run_bind, Sem.run_pure, Result.andThen_ok, hl]
  exact hn

/-- Cells copied over a row that is known whole, whatever size an element has. -/
theorem run_copy_sized (w : World) (dT sT ty elem : TypeId) (sz g o dLen dCap : Nat) (a : Addr) (sLen sCap : Nat) (cur : Array Value) (t : TypeId) (cs : List Value)
    (hu : P.underlying dT = some (.slice elem)) (hs : (P.info? elem).map (·.size) = some sz)
    (hg : w.heap[g]? = some (.cells cur t (0, 0))) (hn : cs.length = Nat.min sLen dLen * sz)
    (hsrc : ∀ j v, cs[j]? = some v → w.cell? (a.add j) = some v) (hfit : o + cs.length ≤ cur.size) (h1 : ∀ v ∈ cs, v.oneCell' = true) :
    (Builtin.copy_ #[dT, sT] ty #[.slice (some ⟨g, o, none⟩) dLen dCap, .slice (some a) sLen sCap]).run P w =
      .ok (goInt (Nat.min sLen dLen)) (w.setRow g (splice cur.toList o cs).toArray) := by
  have hl := run_loadCells_list (P := P) w a cs hsrc
  have hst := run_storeCells_at P g o t cs 0 cur w hg (by simpa using hfit) h1
  rw [hn] at hl
  cases hq : P.info? elem with
  | none => simp [hq] at hs
  | some i =>
    have hi : i.size = sz := by simpa [hq] using hs
    simp [Builtin.copy_, run_underlying hu, Builtin.lenOf, Builtin.firstCells, sizeOf, typeInfo, hq, hi, hl, hst, splice]
end

/-- A whole entry loaded. -/
theorem run_load_en {w : World} {ad : Addr} {e : En} (hc : ∀ j u, (enC e)[j]? = some u → w.cell? (ad.add j) = some u) : (loadVar 27 ad).run Tryz.prog w = .ok (enV e) w :=
  run_loadVar_at w ad 27 (enC e) _ Tryz.underlying27 rfl size_en hc
theorem run_load_at {w : World} {g o : Nat} {e : En} (h0 : w.cell? ⟨g, o, none⟩ = some (strV e.k)) (h1 : w.cell? ⟨g, o + 1, none⟩ = some (strV e.v)) (h2 : w.cell? ⟨g, o + 2, none⟩ = some (.bool e.g)) : (loadVar 27 ⟨g, o, none⟩).run Tryz.prog w = .ok (enV e) w :=
  run_load_en (fun j u hu => by
    rw [add_at]
    match j, hu with
    | 0, hu => cases hu; exact h0
    | 1, hu => cases hu; exact h1
    | 2, hu => cases hu; exact h2)
/-- A box that holds an entry. -/
def Box (w : World) (g : Nat) (e : En) : Prop := w.heap[g]? = some (.cells (enC e).toArray 27 (0, 0))
section
variable {w w' : World} {g : Nat} {e : En} {X : Nat → Prop}
theorem Box.new (w : World) (e : En) : Box (w.alloc (.cells (enC e).toArray 27)) w.heap.size e := heap_alloc_new w _
theorem Box.lt (h : Box w g e) : g < w.heap.size := (Array.getElem?_eq_some_iff.1 h).1
theorem Box.stay (h : Box w g e) (hs : Stay X w w') (hx : ¬ X g) : Box w' g e := (hs.block g h.lt hx).trans h
theorem Box.stay0 (h : Box w g e) (hs : Stay (fun _ => False) w w') : Box w' g e := h.stay hs (fun x => x)
theorem Box.c (h : Box w g e) {j : Nat} {u : Value} (hu : (enC e)[j]? = some u) : w.cell? ⟨g, j, none⟩ = some u := by
  rw [cell_of_row w g j _ _ _ h]
  simpa using hu
theorem Box.fr (h : Box w g e) (j : Nat) : w.frozen? ⟨g, j, none⟩ = false := frozen_of_row w g j _ _ h
theorem Box.run_load (h : Box w g e) : (loadVar 27 ⟨g, 0, none⟩).run Tryz.prog w = .ok (enV e) w :=
  run_load_en (fun j u hu => by rw [add_at, Nat.zero_add]; exact h.c hu)
/-- A slice of it alone. -/
theorem Box.one (h : Box w g e) (c : Nat) (hc : 1 ≤ c) (hm : c ≤ 9223372036854775807) : EnS w (.slice (some ⟨g, 0, none⟩) 1 c) [e] :=
  ⟨_, c, rfl, hc, hm, (fun h => by cases h), fun _ => ⟨g, 0, rfl, fun i e' he j u hu => by
    have hi : i = 0 := by
      have := (List.getElem?_eq_some_iff.1 he).1
      simp at this
      omega
    subst hi
    simp at he
    subst he
    rw [show 0 + 0 * 3 + j = j by omega]
    exact h.c hu⟩⟩
/-- One stored into it whole. -/
theorem Box.store (h : Box w g e) {ops : Array Oper} {rest : List Oper} {o : Oper} {a : Act} {Q : Exit → Act → World → Prop} (hgd : o.guard = none) (x y : Operand) (ho : o.op = .store 27 x y)
    (hx : a.eval x = .pointer (some ⟨g, 0, none⟩)) (e' : En) (hy : a.eval y = enV e')
    (hn : ∀ w', Box w' g e' → Stay (· = g) w w' → wpList Tryz.prog ops Q rest (a.put o.dst undef) w') : wpList Tryz.prog ops Q (o :: rest) a w :=
  wpList_store_mid hgd 27 x y ho g 0 hx 27 (enC e) (enC e') hy h size_en (by rw [length_enC, length_enC]; omega) (one_enC e') (fun w' h1 h2 => hn w' h1 h2)
end

/-- Entries of the call's own. -/
def EnO (base : Nat) (w : World) (v : Value) (L : List En) : Prop := w.ownsRow base 27 3 v L.length (enRows L)
section
variable {base : Nat} {w w' : World} {v x : Value} {L M : List En} {X : Nat → Prop}
theorem EnO.stay (h : EnO base w v L) (hs : Stay X w w') (hx : ∀ k, v.ownBlock = some k → ¬ X k) : EnO base w' v L := by
  refine ⟨h.1, ?_⟩
  rcases h.2 with h' | ⟨g, cap, cur, rfl, h4, hg, r⟩
  · exact .inl h'
  · exact .inr ⟨g, cap, cur, rfl, h4, (hs.block g (Array.getElem?_eq_some_iff.1 hg).1 (hx g rfl)).trans hg, r⟩
theorem EnO.stay0 (h : EnO base w v L) (hs : Stay (fun _ => False) w w') : EnO base w' v L := h.stay hs (fun _ _ x => x)
theorem EnO.rebase {base' : Nat} (h : EnO base w v L) (hb : ∀ k, v.ownBlock = some k → base' ≤ k) : EnO base' w v L := by
  refine ⟨h.1, ?_⟩
  rcases h.2 with h' | ⟨g, cap, cur, rfl, h4, r⟩
  · exact .inl h'
  · exact .inr ⟨g, cap, cur, rfl, hb g rfl, r⟩
theorem EnO.lt (h : EnO base w v L) : ∀ k, v.ownBlock = some k → base ≤ k ∧ k < w.heap.size := World.ownsRow.lt h
theorem EnO.nil (base : Nat) (w : World) : EnO base w (.slice none 0 0) [] := World.ownsRow_nil w base _ _
theorem EnO.empty (base : Nat) (w : World) (hb : base ≤ w.heap.size) : EnO base (w.alloc (.cells #[] 27)) (.slice (some ⟨w.heap.size, 0, none⟩) 0 0) [] := World.ownsRow_lit w #[] 0 hb (Nat.zero_le _) rfl
theorem EnO.form (h : EnO base w v L) : ∃ a c, v = .slice a L.length c := by
  rcases h.2 with ⟨e, hn⟩ | ⟨g, cap, cur, e, _⟩
  · exact ⟨none, 0, by rw [e, hn]⟩
  · exact ⟨_, _, e⟩
theorem EnO.ens (h : EnO base w v L) : EnS w v L := by
  have hc := fun g hg => World.ownsRow.cells (g := g) h hg
  rcases h.2 with ⟨e, hn⟩ | ⟨g, cap, cur, e, _, _, h1, h2, _⟩
  · have : L = [] := List.eq_nil_of_length_eq_zero hn
    subst this
    rw [e]
    exact EnS.nil w
  · refine ⟨_, cap, e, h1, by unfold maxLen at h2; omega, (fun h => by cases h), fun _ => ⟨g, 0, rfl, fun i q hq j u hu => ?_⟩⟩
    subst e
    have hj : j < 3 := (List.getElem?_eq_some_iff.1 hu).1
    have := hc g rfl (i * 3 + j) u (by rw [enRows_get hj L i hq]; exact hu)
    rw [add_at] at this
    rw [show 0 + i * 3 + j = 0 + (i * 3 + j) by omega]
    exact this

/-- Entries appended to the call's own, from whatever slice. -/
theorem run_append_en (t ty : TypeId) (ht : Tryz.prog.underlying t = some (.slice 27)) (hown : EnO base w v L) (hx : EnS w x M) (hlen : (L.length + M.length) * 40 ≤ 140737488355328) (hbase : base ≤ w.heap.size) :
    ∃ v' w', (Builtin.append_ #[t, t] ty #[v, x]).run Tryz.prog w = .ok v' w' ∧ EnO base w' v' (L ++ M) ∧ Stay (fun k => v.ownBlock = some k) w w' ∧ (v'.ownBlock = v.ownBlock ∨ v'.ownBlock = some w.heap.size) := by
  obtain ⟨i0, hi, hz, hsize, hby⟩ := info_parts info_en
  obtain ⟨a0, c, rfl, hc, hm, hn, hr⟩ := hx
  cases a0 with
  | none =>
    obtain rfl := hn rfl
    have hM : M = [] := List.eq_nil_of_length_eq_zero (by omega)
    subst hM
    have h1 := run_append_owned_none (P := Tryz.prog) w base t ty _ i0 3 ht hi v L.length (enRows L) hown
    exact ⟨v, w, h1, by rw [List.append_nil]; exact hown, Stay.refl _ _, .inl rfl⟩
  | some ad =>
    by_cases h0 : M.length = 0
    · have hM : M = [] := List.eq_nil_of_length_eq_zero h0
      subst hM
      obtain ⟨v', w', h1, h2, h3, _, h5⟩ := run_append_own_at (P := Tryz.prog) w base t ty _ i0 zeroV 3 40 ht hi hz hsize hby rfl (by decide) v L.length (enRows L) hown ad 0 c [] rfl (fun j u hu => by simp at hu) (fun u hu => by simp at hu) (by unfold maxLen; simp at hlen; omega) (by simp at hlen; omega) hbase
      exact ⟨v', w', h1, by rw [List.append_nil] at h2; rw [List.append_nil]; exact h2, Stay.grown h3 (fun k hk => hk), h5⟩
    · obtain ⟨g, o, e, hcell⟩ := hr (by omega)
      cases e
      obtain ⟨v', w', h1, h2, h3, _, h5⟩ := run_append_own_at (P := Tryz.prog) w base t ty _ i0 zeroV 3 40 ht hi hz hsize hby rfl (by decide) v L.length (enRows L) hown ⟨g, o, none⟩ M.length c (enRows M) (length_enRows M)
        (fun j u hu => by rw [add_at]; exact enRows_all hcell j u hu) (one_enRows M) (by unfold maxLen; omega) hlen hbase
      exact ⟨v', w', h1, by unfold EnO; rw [List.length_append, enRows_append]; exact h2, Stay.grown h3 (fun k hk => hk), h5⟩
theorem wpList_append_en {ops : Array Oper} {rest : List Oper} {o : Oper} {a : Act} {Q : Exit → Act → World → Prop} (hgd : o.guard = none) (s y : Operand) (t : TypeId)
    (ho : o.op = .call { callee := .builtin .append, args := #[s, y], argTypes := #[t, t] }) (ht : Tryz.prog.underlying t = some (.slice 27)) (hs : a.eval s = v) (hy : a.eval y = x) (hown : EnO base w v L) (hx : EnS w x M) (hlen : (L.length + M.length) * 40 ≤ 140737488355328) (hbase : base ≤ w.heap.size)
    (h : ∀ v' w', EnO base w' v' (L ++ M) → Stay (fun k => v.ownBlock = some k) w w' → (v'.ownBlock = v.ownBlock ∨ v'.ownBlock = some w.heap.size) → wpList Tryz.prog ops Q rest (a.put o.dst v') w') : wpList Tryz.prog ops Q (o :: rest) a w :=
  wpList_plain hgd fun _ hK => by
    obtain ⟨v', w', hrun, h2, h3, h4⟩ := run_append_en t o.type ht hown hx hlen hbase
    unfold Oper.wp execOp
    simp only [ho, resolve, invoke, builtin, Sem.run_bind, Sem.run_pure, Result.andThen_ok, List.map_toArray, List.map_cons, List.map_nil, hs, hy, hrun]
    exact hK _ _ (h v' w' h2 h3 h4)
theorem step_append_en {ops : Array Oper} {o : Oper} {a : Act} {K : Act → World → Prop} {Q : Exit → Act → World → Prop} {E : Prop} (hgd : o.guard = none) (s y : Operand) (t : TypeId)
    (ho : o.op = .call { callee := .builtin .append, args := #[s, y], argTypes := #[t, t] }) (ht : Tryz.prog.underlying t = some (.slice 27)) (hs : a.eval s = v) (hy : a.eval y = x) (hown : EnO base w v L) (hx : EnS w x M) (hlen : (L.length + M.length) * 40 ≤ 140737488355328) (hbase : base ≤ w.heap.size)
    (h : ∀ v' w', EnO base w' v' (L ++ M) → Stay (fun k => v.ownBlock = some k) w w' → (v'.ownBlock = v.ownBlock ∨ v'.ownBlock = some w.heap.size) → K (a.put o.dst v') w') :
    if Region.wanted o (yielded ops a.tmps) = true then Oper.wp Tryz.prog o a w K Q else E := by
  have hw : Region.wanted o (yielded ops a.tmps) = true := by simp [Region.wanted, hgd]
  rw [if_pos hw]
  obtain ⟨v', w', hrun, h2, h3, h4⟩ := run_append_en t o.type ht hown hx hlen hbase
  unfold Oper.wp execOp
  simp only [ho, resolve, invoke, builtin, Sem.run_bind, Sem.run_pure, Result.andThen_ok, List.map_toArray, List.map_cons, List.map_nil, hs, hy, hrun]
  exact h v' w' h2 h3 h4
end

/-- What turned lay behind what was there at first. -/
theorem stay_seal {X : Nat → Prop} {w w' : World} (h : Stay X w w') (hx : ∀ k, X k → w.heap.size ≤ k) : Stay (fun _ => False) w w' :=
  ⟨h.os, h.tape, h.output, h.size, fun k hk _ => h.block k hk (fun hX => by have := hx k hX; omega)⟩

section
variable {B B' X : Nat → Prop} {w w' : World} {p : Nat} {L : List En}
end

/-- What a pointer to a Mem reads as: nil is none. -/
def MR (w : World) (pv : Value) (L : List En) : Prop := (pv = .pointer none ∧ L = []) ∨ ∃ p v, pv = .pointer (some ⟨p, 0, none⟩) ∧ w.cell? ⟨p, 0, none⟩ = some v ∧ EnS w v L
theorem MR.stay0 {w w' : World} {pv : Value} {L : List En} (h : MR w pv L) (hs : Stay (fun _ => False) w w') : MR w' pv L := by
  rcases h with h | ⟨p, v, e, h1, h2⟩
  · exact .inl h
  · exact .inr ⟨p, v, e, hs.cell h1 (fun x => x), h2.stay0 hs⟩
theorem MR.nil (w : World) : MR w (.pointer none) [] := .inl ⟨rfl, rfl⟩
end Go.Proofs.YtahfgoafiepioaaGreatDoor.Me

/-
  mem: New, the entries themselves, how keys are compared, where a key stands.
-/
namespace Go.Proofs.YtahfgoafiepioaaGreatDoor.Me
open Go.RowKit Go.Maps
set_option maxRecDepth 100000
set_option linter.unusedVariables false

end Go.Proofs.YtahfgoafiepioaaGreatDoor.Me

/-
  mem: where a key stands.
-/
namespace Go.Proofs.YtahfgoafiepioaaGreatDoor.Me
open Go.RowKit Go.Maps
set_option maxRecDepth 100000
set_option linter.unusedVariables false

/-- All that stand ahead of lo are ahead of the key, none that stand from hi on. -/
structure Between (L : List En) (k : List UInt8) (lo hi : Nat) : Prop where
  le : lo ≤ hi
  len : hi ≤ L.length
  l : ∀ t, t < lo → ∀ e, L[t]? = some e → ltB e.k k = true
  h : ∀ t, hi ≤ t → ∀ e, L[t]? = some e → ltB e.k k = false
theorem Between.start (L : List En) (k : List UInt8) : Between L k 0 L.length :=
  ⟨Nat.zero_le _, Nat.le_refl _, fun t ht => by omega, fun t ht e he => by have := (List.getElem?_eq_some_iff.1 he).1; omega⟩
theorem Between.up {L : List En} (hs : Sorted L) {k : List UInt8} {lo hi m : Nat} (b : Between L k lo hi) (h1 : lo ≤ m) (h2 : m < hi) {e : En} (he : L[m]? = some e) (hl : ltB e.k k = true) : Between L k (m + 1) hi :=
  ⟨h2, b.len, fun t ht x hx => by
    by_cases h : t = m
    · subst h
      rw [he] at hx
      cases hx
      exact hl
    · exact lt_trans (sorted_at hs (show t < m by omega) hx he) hl, b.h⟩
theorem Between.down {L : List En} (hs : Sorted L) {k : List UInt8} {lo hi m : Nat} (b : Between L k lo hi) (h1 : lo ≤ m) (h2 : m < hi) {e : En} (he : L[m]? = some e) (hl : ltB e.k k = false) : Between L k lo m :=
  ⟨h1, by have := b.len; omega, b.l, fun t ht x hx => by
    by_cases h : t = m
    · subst h
      rw [he] at hx
      cases hx
      exact hl
    · cases h3 : ltB x.k k with
      | false => rfl
      | true => rw [lt_trans (sorted_at hs (show m < t by omega) he hx) h3] at hl; cases hl⟩
theorem Between.end {L : List En} {k : List UInt8} {i : Nat} (b : Between L k i i) : posN L k = i :=
  posN_is k L i b.len b.l (fun e he => b.h i (Nat.le_refl _) e he)

end Go.Proofs.YtahfgoafiepioaaGreatDoor.Me

/-
  mem: how many, how many bytes, a key's entry, all dropped.
-/
namespace Go.Proofs.YtahfgoafiepioaaGreatDoor.Me
open Go.RowKit Go.Maps
set_option maxRecDepth 100000
set_option linter.unusedVariables false

theorem MR.ptr {w : World} {pv : Value} {L : List En} (h : MR w pv L) : ∃ p0, pv = .pointer p0 := by
  rcases h with ⟨e, _⟩ | ⟨p, v, e, _⟩
  · exact ⟨_, e⟩
  · exact ⟨_, e⟩
theorem alloc_en {ops : Array Oper} {rest : List Oper} {o : Oper} {a : Act} {w : World} {Q : Exit → Act → World → Prop} (hgd : o.guard = none) (ho : o.op = .alloc 27)
    (hn : wpList Tryz.prog ops Q rest (a.put o.dst (.pointer (some ⟨w.heap.size, 0, none⟩))) (w.alloc (.cells (enC ⟨[], [], false⟩).toArray 27))) : wpList Tryz.prog ops Q (o :: rest) a w :=
  wpList_alloc_at hgd _ ho zeroV (zero_en w) hn

end Go.Proofs.YtahfgoafiepioaaGreatDoor.Me

/-
  mem: slices.Insert of one entry into entries of the call's own: at the end; in the middle, with room and without.
-/
namespace Go.Proofs.YtahfgoafiepioaaGreatDoor.Me
open Go.RowKit Go.Maps
set_option maxRecDepth 100000
set_option linter.unusedVariables false

/-- A row shifted by one entry, and one laid in. -/
theorem splice_shift (L : List En) (R : List Value) (e : En) {i : Nat} (hi : i ≤ L.length) (hR : R.take (L.length * 3) = enRows L) (hl : (L.length + 1) * 3 ≤ R.length) :
    (splice (splice R ((i + 1) * 3) (enRows (L.drop i))) (i * 3) (enC e)).take ((L.length + 1) * 3) = enRows (L.take i ++ e :: L.drop i) := by
  have hT : R.take (i * 3) = enRows (L.take i) := by
    rw [← enRows_take L i hi, ← hR, List.take_take]
    congr 1
    omega
  have hD : (enRows (L.drop i)).length = (L.length - i) * 3 := by rw [length_enRows, List.length_drop]
  have h3 : (enC e).length = 3 := rfl
  unfold splice
  have e1 : (R.take ((i + 1) * 3) ++ (enRows (L.drop i) ++ R.drop ((i + 1) * 3 + (enRows (L.drop i)).length))).take (i * 3) = enRows (L.take i) := by
    rw [List.take_append_of_le_length (by rw [List.length_take]; omega), List.take_take, show min (i * 3) ((i + 1) * 3) = i * 3 by omega, hT]
  have e2 : (R.take ((i + 1) * 3) ++ (enRows (L.drop i) ++ R.drop ((i + 1) * 3 + (enRows (L.drop i)).length))).drop (i * 3 + (enC e).length) = enRows (L.drop i) ++ R.drop ((i + 1) * 3 + (enRows (L.drop i)).length) := by
    rw [List.drop_append, List.drop_eq_nil_of_le (by rw [List.length_take]; omega), List.nil_append, List.length_take, show i * 3 + (enC e).length - min ((i + 1) * 3) R.length = 0 by omega, List.drop_zero]
  rw [e1, e2, enRows_append, enRows_cons, ← List.append_assoc (enC e), ← List.append_assoc, List.take_append_of_le_length]
  · rw [List.take_of_length_le]
    rw [List.length_append, List.length_append, length_enRows, hD, h3, List.length_take]
    omega
  · rw [List.length_append, List.length_append, length_enRows, hD, h3, List.length_take]
    omega
/-- A row whose begin stands, one laid in behind it, and then the rest. -/
theorem splice_fill (L : List En) (R : List Value) (e : En) {i : Nat} (hi : i ≤ L.length) (hR : R.take (i * 3) = enRows (L.take i)) (hl : (L.length + 1) * 3 ≤ R.length) :
    (splice (splice R (i * 3) (enC e)) ((i + 1) * 3) (enRows (L.drop i))).take ((L.length + 1) * 3) = enRows (L.take i ++ e :: L.drop i) := by
  have hD : (enRows (L.drop i)).length = (L.length - i) * 3 := by rw [length_enRows, List.length_drop]
  have h3 : (enC e).length = 3 := rfl
  unfold splice
  have e1 : (R.take (i * 3) ++ (enC e ++ R.drop (i * 3 + (enC e).length))).take ((i + 1) * 3) = enRows (L.take i) ++ enC e := by
    rw [hR, ← List.append_assoc, List.take_append_of_le_length (by rw [List.length_append, length_enRows, h3, List.length_take]; omega), List.take_of_length_le (by rw [List.length_append, length_enRows, h3, List.length_take]; omega)]
  rw [e1, enRows_append, enRows_cons, ← List.append_assoc (enRows (L.take i) ++ enC e), List.take_append_of_le_length]
  · rw [List.take_of_length_le, List.append_assoc]
    rw [List.length_append, List.length_append, length_enRows, hD, h3, List.length_take]
    omega
  · rw [List.length_append, List.length_append, length_enRows, hD, h3, List.length_take]
    omega

theorem run_copy_en (w : World) (ty : TypeId) (g o dLen dCap : Nat) (ad : Addr) (sLen sCap : Nat) (cur : List Value) (cs : List Value)
    (hg : w.heap[g]? = some (.cells cur.toArray 27 (0, 0))) (hn : cs.length = Nat.min sLen dLen * 3)
    (hsrc : ∀ j v, cs[j]? = some v → w.cell? (ad.add j) = some v) (hfit : o + cs.length ≤ cur.length) (h1 : ∀ v ∈ cs, v.oneCell' = true) :
    (Builtin.copy_ #[22, 22] ty #[.slice (some ⟨g, o, none⟩) dLen dCap, .slice (some ad) sLen sCap]).run Tryz.prog w =
      .ok (goInt (Nat.min sLen dLen)) (w.setRow g (splice cur o cs).toArray) := by
  have := run_copy_sized (P := Tryz.prog) w 22 22 ty 27 3 g o dLen dCap ad sLen sCap cur.toArray 27 cs Tryz.underlying22 size_en hg hn hsrc (by simpa using hfit) h1
  simpa using this
section
variable {w : World} {o : Oper} {a : Act} {Q : Exit → Act → World → Prop} {ops : Array Oper}
theorem wpList_copy_en {rest : List Oper} (hgd : o.guard = none) (d s : Operand) (ho : o.op = .call { callee := .builtin .copy, args := #[d, s], argTypes := #[22, 22] })
    (g off dLen dCap : Nat) (ad : Addr) (sLen sCap : Nat) (hd : a.eval d = .slice (some ⟨g, off, none⟩) dLen dCap) (hs : a.eval s = .slice (some ad) sLen sCap) (cur cs : List Value)
    (hg : w.heap[g]? = some (.cells cur.toArray 27 (0, 0))) (hn : cs.length = Nat.min sLen dLen * 3)
    (hsrc : ∀ j v, cs[j]? = some v → w.cell? (ad.add j) = some v) (hfit : off + cs.length ≤ cur.length) (h1 : ∀ v ∈ cs, v.oneCell' = true)
    (h : ∀ w', Hid (w'.heap[g]? = some (.cells (splice cur off cs).toArray 27 (0, 0))) → Hid (Stay (· = g) w w') → wpList Tryz.prog ops Q rest (a.put o.dst (goInt (Nat.min sLen dLen))) w') : wpList Tryz.prog ops Q (o :: rest) a w :=
  wpList_plain hgd fun _ hK => by
    have hrun := run_copy_en w o.type g off dLen dCap ad sLen sCap cur cs hg hn hsrc hfit h1
    unfold Oper.wp execOp
    simp only [ho, resolve, invoke, builtin, Sem.run_bind, Sem.run_pure, Result.andThen_ok, List.map_toArray, List.map_cons, List.map_nil, hd, hs, hrun]
    exact hK _ _ (h _ (show _ = _ from setRow_heap w g _ _ _ _ hg) (Stay.setRow (X := fun k => k = g) w g _ rfl))
theorem step_copy_en {K : Act → World → Prop} {E : Prop} (hgd : o.guard = none) (d s : Operand) (ho : o.op = .call { callee := .builtin .copy, args := #[d, s], argTypes := #[22, 22] })
    (g off dLen dCap : Nat) (ad : Addr) (sLen sCap : Nat) (hd : a.eval d = .slice (some ⟨g, off, none⟩) dLen dCap) (hs : a.eval s = .slice (some ad) sLen sCap) (cur cs : List Value)
    (hg : w.heap[g]? = some (.cells cur.toArray 27 (0, 0))) (hn : cs.length = Nat.min sLen dLen * 3)
    (hsrc : ∀ j v, cs[j]? = some v → w.cell? (ad.add j) = some v) (hfit : off + cs.length ≤ cur.length) (h1 : ∀ v ∈ cs, v.oneCell' = true)
    (h : ∀ w', Hid (w'.heap[g]? = some (.cells (splice cur off cs).toArray 27 (0, 0))) → Hid (Stay (· = g) w w') → K (a.put o.dst (goInt (Nat.min sLen dLen))) w') : if Region.wanted o (yielded ops a.tmps) = true then Oper.wp Tryz.prog o a w K Q else E := by
  have hw : Region.wanted o (yielded ops a.tmps) = true := by simp [Region.wanted, hgd]
  rw [if_pos hw]
  have hrun := run_copy_en w o.type g off dLen dCap ad sLen sCap cur cs hg hn hsrc hfit h1
  unfold Oper.wp execOp
  simp only [ho, resolve, invoke, builtin, Sem.run_bind, Sem.run_pure, Result.andThen_ok, List.map_toArray, List.map_cons, List.map_nil, hd, hs, hrun]
  exact h _ (show _ = _ from setRow_heap w g _ _ _ _ hg) (Stay.setRow (X := fun k => k = g) w g _ rfl)
end

theorem shape_row {w : World} {g : Nat} {cs : Array Value} {t : TypeId} {fr : Nat × Nat} (h : w.heap[g]? = some (.cells cs t fr)) : w.shape? g = some (t, cs.size) := by
  unfold World.shape?
  rw [h]

/-- What Insert hands out. -/
structure Ins (w w' : World) (v v' : Value) (M : List En) : Prop where
  own : EnO 0 w' v' M
  stay : Stay (fun k => v.ownBlock = some k) w w'
  blk : v'.ownBlock = v.ownBlock ∨ ∃ k, v'.ownBlock = some k ∧ w.heap.size ≤ k

end Go.Proofs.YtahfgoafiepioaaGreatDoor.Me

/-
  mem: slices.Insert of one entry in the middle, where there is no room.
-/
namespace Go.Proofs.YtahfgoafiepioaaGreatDoor.Me
open Go.RowKit Go.Maps
set_option maxRecDepth 100000
set_option linter.unusedVariables false

theorem length_zeros (k : Nat) : (Builtin.zeroCells zeroV.cells k).size = k * 3 := by
  unfold Builtin.zeroCells
  rw [Array.size_map, Array.size_range]
  rfl

end Go.Proofs.YtahfgoafiepioaaGreatDoor.Me

/-
  mem: an entry laid in.
-/
namespace Go.Proofs.YtahfgoafiepioaaGreatDoor.Me
open Go.RowKit Go.Maps
set_option maxRecDepth 100000
set_option linter.unusedVariables false

/-- What turned of a Mem: its block, or its entries'. -/
def Own (p : Nat) (v : Value) (k : Nat) : Prop := k = p ∨ v.ownBlock = some k

theorem splice_put (L : List En) (R : List Value) (e : En) {i : Nat} (hi : i < L.length) (hR : R.take (L.length * 3) = enRows L) :
    (splice R (i * 3) (enC e)).take (L.length * 3) = enRows (L.take i ++ e :: L.drop (i + 1)) := by
  have h3 : (enC e).length = 3 := rfl
  have hl := length_enRows L
  obtain ⟨T, hT⟩ : ∃ T, R = enRows L ++ T := ⟨R.drop (L.length * 3), by rw [← hR, List.take_append_drop]⟩
  subst hT
  have e1 : splice (enRows L ++ T) (i * 3) (enC e) = enRows (L.take i ++ e :: L.drop (i + 1)) ++ T := by
    unfold splice
    rw [List.take_append_of_le_length (by omega), enRows_take L i (by omega), h3, show i * 3 + 3 = (i + 1) * 3 by omega, List.drop_append_of_le_length (by omega), enRows_drop L (i + 1) (by omega), enRows_append, enRows_cons]
    simp only [List.append_assoc]
  have e2 : (enRows (L.take i ++ e :: L.drop (i + 1))).length = L.length * 3 := by
    rw [length_enRows, List.length_append, List.length_cons, List.length_take, List.length_drop]
    omega
  rw [e1, List.take_append_of_le_length (by omega), List.take_of_length_le (by omega)]
theorem run_store_en {w : World} {b o : Nat} {S : List Value} {e : En} (hg : w.heap[b]? = some (.cells S.toArray 27 (0, 0))) (hf : o + 3 ≤ S.length) :
    (storeVar 27 ⟨b, o, none⟩ (enV e)).run Tryz.prog w = .ok () (w.setRow b (splice S o (enC e)).toArray) :=
  run_storeVar_mid (P := Tryz.prog) w b o 27 27 S (enC e) hg size_en hf (one_enC e)

theorem step_load_run {P : Program} {ops : Array Oper} {Q : Exit → Act → World → Prop} {o : Oper} {a : Act} {w : World} {K : Act → World → Prop} {E : Prop} (hw : Region.wanted o (yielded ops a.tmps) = true) (ty : TypeId) (x : Operand) (ho : o.op = .load ty x) (ad : Addr) (hx : a.eval x = .pointer (some ad)) (v : Value)
    (hl : (loadVar ty ad).run P w = .ok v w) (h : K (a.put o.dst v) w) : if Region.wanted o (yielded ops a.tmps) = true then Oper.wp P o a w K Q else E := by
  rw [if_pos hw]
  unfold Oper.wp execOp
  simp only [ho, hx, Instr.loadAt, Instr.sureAddr, Sem.run_bind, Sem.run_pure, Result.andThen_ok, hl]
  exact h
/-- A slice of one entry, made. -/
theorem step_one_en {ops : Array Oper} {Q : Exit → Act → World → Prop} {o : Oper} {a : Act} {w : World} {K : Act → World → Prop} {E : Prop} (hw : Region.wanted o (yielded ops a.tmps) = true) (x : Operand) (ho : o.op = .buildSlice 22 1 #[(0, x)]) (e : En) (hx : a.eval x = enV e)
    (h : K (a.put o.dst (.slice (some ⟨w.heap.size, 0, none⟩) 1 1)) (w.alloc (.cells (enC e).toArray 27))) : if Region.wanted o (yielded ops a.tmps) = true then Oper.wp Tryz.prog o a w K Q else E := by
  obtain ⟨i0, hi0, hz0, hzs, hzb⟩ := info_parts info_en
  rw [if_pos hw]
  refine wp_buildSlice 22 27 1 #[(0, x)] ho (enC e).toArray i0 zeroV Tryz.underlying22 hi0 hz0 (by rw [hzs]; decide) (by rw [hzs]; decide) ?_ h
  rw [hzs]
  simp only [List.map_toArray, List.map_cons, List.map_nil, hx]
  simp [Instr.fill, enV, enC, zeroV, Value.cells, Array.range]
  apply Array.ext_getElem?
  intro j
  match j with
  | 0 => simp
  | 1 => simp
  | 2 => simp
  | j + 3 => simp
theorem run_load_slice {w : World} {p : Nat} {v : Value} (hc : w.cell? ⟨p, 0, none⟩ = some v) : (loadVar 22 ⟨p, 0, none⟩).run Tryz.prog w = .ok v w := by
  have hu := run_underlying (P := Tryz.prog) Tryz.underlying22 w
  simp [loadVar, isAgg, hu]
  rw [hc]

end Go.Proofs.YtahfgoafiepioaaGreatDoor.Me

/-
  mem: a key's entry; those of a range; all.
-/
namespace Go.Proofs.YtahfgoafiepioaaGreatDoor.Me
open Go.RowKit Go.Maps
set_option maxRecDepth 100000
set_option linter.unusedVariables false

/-- What Get answers: the entry, or nothing. -/
def entOf : Option En → En
  | some e => e
  | none => ⟨[], [], false⟩

/-- What lies between two places of a slice. -/
theorem EnS.part {w : World} {a0 : Option Addr} {n c i j : Nat} {L : List En} (h : EnS w (.slice a0 n c) L) (hi : i ≤ j) (hj : j ≤ L.length) : EnS w (.slice (if c = i then a0 else a0.map (·.add (i * 3))) (j - i) (c - i)) ((L.drop i).take (j - i)) := by
  have h1 := h.cut (i := i) (by omega)
  exact h1.first (by rw [List.length_drop]; omega)
theorem EnS.part_cap {w : World} {ad : Addr} {n c i m : Nat} {L : List En} (h : EnS w (.slice (some ad) n c) L) (hc : c = i) (hi : i ≤ m) (hm : m ≤ L.length) : EnS w (.slice (some ad) 0 0) ((L.drop i).take (m - i)) := by
  have h1 := h.part hi hm
  obtain ⟨_, c1, e, hnc, _⟩ := h
  cases e
  have e1 : m - i = 0 := by omega
  rw [if_pos hc, e1, hc, Nat.sub_self] at h1
  rw [e1]
  exact h1
theorem EnS.part_in {w : World} {ad : Addr} {n c i m : Nat} {L : List En} (h : EnS w (.slice (some ad) n c) L) (hc : ¬ c = i) (hi : i ≤ m) (hm : m ≤ L.length) : EnS w (.slice (some (ad.add (i * 3))) (m - i) (c - i)) ((L.drop i).take (m - i)) := by
  have h1 := h.part hi hm
  rw [if_neg hc] at h1
  exact h1
theorem EnS.part_no {w : World} {ad : Addr} {n c i m : Nat} {L : List En} (h : EnS w (.slice (some ad) n c) L) (hc : ¬ c = i) (hi : i = m) (hm : m ≤ L.length) : EnS w (.slice (some (ad.add (i * 3))) 0 (c - i)) ((L.drop i).take (m - i)) := by
  have h1 := h.part_in hc (Nat.le_of_eq hi) hm
  have e1 : m - i = 0 := by omega
  rw [e1] at h1 ⊢
  exact h1
theorem drop_nil {L : List En} (h : L.length = 0) (i m : Nat) : (L.drop i).take m = [] := by
  rw [List.eq_nil_of_length_eq_zero h]
  simp
set_option maxHeartbeats 1000000 in
theorem range_nil (L : List En) : rangeL L [] [] = L := by
  unfold rangeL
  rw [List.filter_eq_self]
  intro e _
  simp [lt_nil]
end Go.Proofs.YtahfgoafiepioaaGreatDoor.Me

/-
  mem: the document's Put.
-/
namespace Go.Proofs.YtahfgoafiepioaaGreatDoor.Me
open Go.RowKit Go.Maps
set_option maxRecDepth 100000
set_option linter.unusedVariables false

theorem stay_drewN {X : Nat → Prop} (w : World) (n : Nat) : Stay X w (w.drewN n) := ⟨rfl, rfl, rfl, Nat.le_refl _, fun _ _ _ => rfl⟩
theorem posN_next {L : List En} {k : List UInt8} {j : Nat} (hj : j ≤ posN L k) {e : En} (he : L[j]? = some e) (hl : ltB e.k k = true) : j + 1 ≤ posN L k := by
  by_cases h : j = posN L k
  · subst h
    rw [posN_at k L e he] at hl
    cases hl
  · omega
theorem posN_stop {L : List En} {k : List UInt8} {j : Nat} (hj : j ≤ posN L k) {e : En} (he : L[j]? = some e) (hl : ltB e.k k = false) : posN L k = j := by
  by_cases h : j = posN L k
  · exact h.symm
  · rw [posN_lt k L j (by omega) e he] at hl
    cases hl

theorem EnS.empty (w : World) (ad : Addr) : EnS w (.slice (some ad) 0 0) [] := ⟨_, 0, rfl, Nat.le_refl _, by decide, (fun h => by cases h), fun h => absurd h (Nat.lt_irrefl 0)⟩
theorem EnS.cut_some {w : World} {g o n c m : Nat} {L : List En} (h : EnS w (.slice (some ⟨g, o, none⟩) n c) L) (hm : m ≤ L.length) (hc : ¬ c = m) : EnS w (.slice (some ⟨g, o + m * 3, none⟩) (n - m) (c - m)) (L.drop m) := by
  have h1 := h.cut hm
  rw [if_neg hc, Option.map_some, add_at] at h1
  exact h1

set_option maxHeartbeats 4000000 in
theorem rput_any (w : World) (x : Value) (L : List En) (e : En) (hx : EnS w x L) (hl : L.length ≤ 1000) :
    Calls Tryz.prog 4 #[x, enV e] w fun y w' => ∃ v, y = .returned v ∧ EnO w.heap.size w' v (putL L e) ∧ Stay (fun _ => False) w w' := by
  have HX0 := Lib.hid hx
  have hs0 : Stay (fun _ => False) w (w.alloc (.cells (enC e).toArray 27)) := Stay.alloc _ _
  have hb0 := Box.new w e
  have hz0 : (w.alloc (.cells (enC e).toArray 27)).heap.size = w.heap.size + 1 := by simp
  obtain ⟨w0, hw0⟩ : ∃ w0, w.alloc (.cells (enC e).toArray 27) = w0 := ⟨_, rfl⟩
  rw [hw0] at hs0 hb0 hz0
  have W0 := Lib.hid hw0
  have HS0 := Lib.hid hs0
  have HB0 := Lib.hid hb0
  have c0 := hb0.c (j := 0) rfl
  have c1 := hb0.c (j := 1) rfl
  have c2 := hb0.c (j := 2) rfl
  have f1 := hb0.fr 1
  have HL := Lib.hid hl
  have HZ0 := Lib.hid hz0
  obtain ⟨a0, c, rfl, hnc, hcm, hnil, _⟩ := hx
  have HNIL := Lib.hid hnil
  clear hw0 hs0 hb0 hz0 hl hnil
  unfold enV enC
  unfold enC at W0
  go_enter Tryz.func4, Tryz.ntmps4
  cases hg : e.g with
  | false =>
    have hbx : Box w0 w.heap.size (norm e) := by
      unfold norm
      rw [if_neg (by rw [hg]; decide)]
      exact HB0.out
    have hst : Stay (fun _ => False) w w0 := HS0.out
    have hsz : w0.heap.size = w.heap.size + 1 := HZ0.out
    rw [hg] at c2 W0
    go_wp2_with (rw [W0.out])
    obtain ⟨wb, rfl⟩ : ∃ wb, wb = w0 := ⟨_, rfl⟩
    have HBX := Lib.hid hbx
    have HST := Lib.hid hst
    have HSZ := Lib.hid hsz
    have HX := Lib.hid (HX0.out.stay0 hst)
    clear hbx hst hsz c0 c1 c2 f1 W0 HS0 HB0
    go_loopw [6] (fun i wr => ∃ j : Nat, i = .int .i64 (j : Int) ∧ j ≤ posN L e.k ∧ Stay (fun _ => False) wb wr) (fun i _ => L.length - (intOf i).toNat)
    case atStart => exact ⟨0, rfl, Nat.zero_le _, Stay.refl _ _⟩
    case round =>
      obtain ⟨j, rfl, hj, hst⟩ := hrel
      have hple := posN_le e.k L
      have HT := Lib.hid hst
      have HBR := Lib.hid (HBX.out.stay0 hst)
      have HXR := Lib.hid (HX.out.stay0 hst)
      clear hst
      have b0 := HBR.out.c (j := 0) rfl
      rw [norm_k] at b0
      by_cases hlt : j < L.length
      · obtain ⟨q, hq⟩ : ∃ q, L[j]? = some q := ⟨_, List.getElem?_eq_getElem hlt⟩
        obtain ⟨g, o, rfl, _, hc⟩ := HXR.out.at (by omega)
        obtain ⟨h0, h1, h2⟩ := hc _ q hq
        have hle := less_eq q.k e.k
        clear hc h1 h2
        have HQ := Lib.hid hq
        clear hq
        cases hlk : ltB q.k e.k with
        | true =>
          have HN := Lib.hid (posN_next hj HQ.out hlk)
          rw [hlk] at hle
          go_wp2
          go_quiet (fail)
          have HT2 := Lib.hid (HT.out.trans (stay_drewN (X := fun _ => False) wr nq))
          clear b0 h0
          go_wp2
          refine ⟨⟨j + 1, by go_num, HN.out, HT2.out⟩, by simp [intOf]; omega⟩
        | false =>
          have HP := Lib.hid (posN_stop hj HQ.out hlk)
          rw [hlk] at hle
          have hjl : j ≤ L.length := by omega
          go_wp2
          go_quiet (fail)
          have HS2 := Lib.hid (stay_drewN (X := fun _ => False) wr nq)
          generalize wr.drewN nq = w2 at *
          clear b0 h0 hle hj hple
          have HXW := Lib.hid (HXR.out.stay0 HS2.out)
          have HBW := Lib.hid (HBR.out.stay0 HS2.out)
          have HTW := Lib.hid (HST.out.trans (HT.out.trans HS2.out))
          have HLW := Lib.hid (show w.heap.size + 1 ≤ w2.heap.size by have h1 := (HT.out.trans HS2.out).size; have h2 := HSZ.out; omega)
          clear HXR HBR HS2
          go_wp2
          refine wp_region_held (S := Stay (fun _ => False) w2.drew) (by kernel_rfl) ?_
          change wpAnyH _ _ _ _ _ _ _ _ (World.drew _)
          refine wpAnyH_takeL (i := 0) (v := .slice none 0 0) #[true, false, false, false, false, false, false, false, false] rfl (by kernel_rfl) (by kernel_rfl) (by kernel_rfl) (fun _ _ _ h => h) (by kernel_rfl) (Stay.refl _ _) (Or.inl ⟨by rfl, fun W hW => ?_⟩) ?_
          · go_simp
          conv => arg 8; simp [Act.put]
          refine wpAnyH_takeL (i := 1) (v := .slice (some ⟨g, o, none⟩) L.length c) #[true, true, false, false, false, false, false, false, false] rfl (by kernel_rfl) (by kernel_rfl) (by kernel_rfl) (fun _ _ _ h => h) (by kernel_rfl) (Stay.refl _ _) (Or.inl ⟨by rfl, fun W hW => ?_⟩) ?_
          · go_simp
          conv => arg 8; simp [Act.put]
          refine wpAnyH_takeL (i := 2) (v := .int .i64 (j : Int)) #[true, true, true, false, false, false, false, false, false] rfl (by kernel_rfl) (by kernel_rfl) (by kernel_rfl) (fun _ _ _ h => h) (by kernel_rfl) (Stay.refl _ _) (Or.inl ⟨by rfl, fun W hW => ?_⟩) ?_
          · go_simp
          conv => arg 8; simp [Act.put]
          refine wpAnyH_takeL (i := 3) (v := .slice (some ⟨g, o, none⟩) j c) #[true, true, true, true, false, false, false, false, false] rfl (by kernel_rfl) (by kernel_rfl) (by kernel_rfl) (fun _ _ _ h => h) (by kernel_rfl) (Stay.refl _ _) (Or.inl ⟨by rfl, fun W hW => ?_⟩) ?_
          · (go_simp; try (intro hcj; exfalso; omega))
          conv => arg 8; simp [Act.put]
          refine wpAnyH_takeL (i := 5) #[true, true, true, true, false, true, false, false, false] rfl (by kernel_rfl) (by kernel_rfl) (by kernel_rfl) (fun _ _ _ h => h) (by kernel_rfl) (Stay.refl _ _) (yieldsIf_load rfl 27 (.tmp 3) rfl ⟨w.heap.size, 0, none⟩ rfl _ (fun W hW => ((show Box w2.drew w.heap.size (norm e) from HBW.out).stay0 hW).run_load)) ?_
          conv => arg 8; simp [Act.put]
          refine wpAnyH_ready (rs := [4, 6]) (by kernel_rfl) (by simp) ?_
          refine AllReadyH.cons (o := _) rfl (fun K hK => ?_) ?_
          · refine step_append_en rfl (.tmp 26) (.tmp 29) 22 rfl Tryz.underlying22 rfl rfl (EnO.nil w2.heap.size w2.drew) ((show EnS w2.drew (.slice (some ⟨g, o, none⟩) L.length c) L from HXW.out).first hjl) (by rw [List.length_nil, List.length_take]; have := HL.out; omega) (by exact Nat.le_refl _) ?_
            intro v1 z1 ho1 hs1 hb1
            have hs1' : Stay (fun _ => False) w2.drew z1 := hs1.mono (fun k hk => by cases hk)
            have HS1 := Lib.hid hs1'
            refine Shut.out hK _ _ HS1.out (fun _ => ?_)
            have HO1 := Lib.hid (show EnO w2.heap.size z1 v1 (L.take j) from ho1)
            clear ho1 hs1 hs1' hb1 hK
            refine wpAnyH_listedL #[true, true, true, true, true, true, false, false, false] (by kernel_rfl) ?_
            conv => arg 8; simp [Act.put]
            refine wpAnyH_one #[true, true, true, true, true, true, true, false, false] (i := 6) rfl (by kernel_rfl) (by kernel_rfl) (fun K hK => ?_)
            refine step_one_en rfl (.tmp 31) rfl (norm e) rfl ?_
            have hbn := Box.new z1 (norm e)
            have hsn : Stay (fun _ => False) z1 (z1.alloc (.cells (enC (norm e)).toArray 27)) := Stay.alloc _ _
            obtain ⟨za, hza⟩ : ∃ za, z1.alloc (.cells (enC (norm e)).toArray 27) = za := ⟨_, rfl⟩
            rw [hza] at hbn hsn ⊢
            have HSA := Lib.hid (HS1.out.trans hsn)
            have HO2 := Lib.hid (HO1.out.stay0 hsn)
            refine hK _ _ HSA.out ?_
            have HBN := Lib.hid hbn
            clear hbn hsn hza hK
            conv => arg 8; simp [Act.put]
            refine wpAnyH_one #[true, true, true, true, true, true, true, true, false] (i := 7) rfl (by kernel_rfl) (by kernel_rfl) (fun K hK => ?_)
            refine step_append_en rfl (.tmp 30) (.tmp 32) 22 rfl Tryz.underlying22 rfl rfl HO2.out (HBN.out.one 1 (by decide) (by decide)) (by rw [List.length_take, List.length_singleton]; have := HL.out; omega) (by exact HSA.out.size) ?_
            intro v2 z3 ho3 hs3 hb3
            have HS3 := Lib.hid (stay_seal (((HSA.out).mono (Y := fun k => v1.ownBlock = some k) (fun _ x => x.elim)).trans hs3) (fun k hk => ((HO2.out).lt k hk).1))
            have HO3 := Lib.hid ho3
            refine hK _ _ HS3.out ?_
            clear ho3 hs3 hb3 hK
            conv => arg 8; simp [Act.put]
            refine wpAnyH_takeL (i := 8) (v := v2) #[true, true, true, true, true, true, true, true, true] rfl (by kernel_rfl) (by kernel_rfl) (by kernel_rfl) (fun _ _ _ h => h) (by kernel_rfl) HS3.out (Or.inl ⟨by rfl, fun W hW => ?_⟩) ?_
            · go_simp
            conv => arg 8; simp [Act.put]
            refine wpAnyH_done (by kernel_rfl) ?_ _
            go_wp2
            have HTZ := Lib.hid (HTW.out.trans (Stay.drew.trans HS3.out))
            have HXZ := Lib.hid ((show EnS w2.drew _ L from HXW.out).stay0 HS3.out)
            have HBZ := Lib.hid ((show Box w2.drew w.heap.size (norm e) from HBW.out).stay0 HS3.out)
            have HSW := Lib.hid (HTW.out.size)
            have b0 := HBZ.out.c (j := 0) rfl
            rw [norm_k] at b0
            obtain ⟨g9, o9, e9, _, hc9⟩ := HXZ.out.at (by omega)
            cases e9
            obtain ⟨h0, _, _⟩ := hc9 _ q HQ.out
            clear hc9
            by_cases hk : q.k = e.k
            · have HPT := Lib.hid (show putL L e = (L.take j ++ [norm e]) ++ L.drop (j + 1) by unfold putL; rw [show hasB L e.k = true by unfold hasB; rw [HP.out, HQ.out]; simpa using hk, HP.out]; simp)
              rw [hk] at h0
              go_quiet (fail)
              have HS4 := Lib.hid (stay_drewN (X := fun _ => False) z3 nq)
              generalize z3.drewN nq = z4 at *
              have HO4 := Lib.hid (HO3.out.stay0 HS4.out)
              have HX4 := Lib.hid (HXZ.out.stay0 HS4.out)
              have HT4 := Lib.hid (HTZ.out.trans HS4.out)
              have HW4 := Lib.hid (show w2.heap.size ≤ z4.heap.size from Nat.le_trans (show w2.heap.size ≤ z3.heap.size from HS3.out.size) HS4.out.size)
              clear h0 b0
              by_cases hcm1 : c = j + 1
              · subst hcm1
                have HCUT := Lib.hid (show EnS z4 (.slice (some ⟨g, o, none⟩) 0 0) (L.drop (j + 1)) by rw [List.drop_eq_nil_of_le (by omega)]; exact EnS.empty _ _)
                go_wp2_with (at_builtin; refine wpList_append_en rfl (.tmp 50) (.tmp 53) 22 rfl Tryz.underlying22 rfl rfl HO4.out HCUT.out (by rw [List.length_append, List.length_take, List.length_singleton, List.length_drop]; have := HL.out; omega) HW4.out ?_; intro v5 w5 ho5 hs5 hb5; have HO5 := Lib.hid ho5; have HS5 := Lib.hid hs5; clear ho5 hs5 hb5)
                go_ret
                exact ⟨_, rfl, by rw [HPT.out]; exact HO5.out.rebase (fun k hk => by have h1 := (HO5.out.lt k hk).1; have h2 := HSW.out; omega), stay_seal ((HT4.out.mono (Y := fun k => v2.ownBlock = some k) (fun _ x => x.elim)).trans HS5.out) (fun k hk => by have h1 := (HO4.out.lt k hk).1; have h2 := HSW.out; omega)⟩
              · have HCUT := Lib.hid (HX4.out.cut_some (m := j + 1) (by omega) hcm1)
                go_wp2_with (at_builtin; refine wpList_append_en rfl (.tmp 50) (.tmp 53) 22 rfl Tryz.underlying22 rfl rfl HO4.out HCUT.out (by rw [List.length_append, List.length_take, List.length_singleton, List.length_drop]; have := HL.out; omega) HW4.out ?_; intro v5 w5 ho5 hs5 hb5; have HO5 := Lib.hid ho5; have HS5 := Lib.hid hs5; clear ho5 hs5 hb5)
                go_ret
                exact ⟨_, rfl, by rw [HPT.out]; exact HO5.out.rebase (fun k hk => by have h1 := (HO5.out.lt k hk).1; have h2 := HSW.out; omega), stay_seal ((HT4.out.mono (Y := fun k => v2.ownBlock = some k) (fun _ x => x.elim)).trans HS5.out) (fun k hk => by have h1 := (HO4.out.lt k hk).1; have h2 := HSW.out; omega)⟩
            · have HPT := Lib.hid (show putL L e = (L.take j ++ [norm e]) ++ L.drop j by unfold putL; rw [show hasB L e.k = false by unfold hasB; rw [HP.out, HQ.out]; simpa using hk, HP.out]; simp)
              have hkb : (q.k == e.k) = false := by simpa using hk
              go_quiet (fail)
              have HS4 := Lib.hid (stay_drewN (X := fun _ => False) z3 nq)
              generalize z3.drewN nq = z4 at *
              have HO4 := Lib.hid (HO3.out.stay0 HS4.out)
              have HX4 := Lib.hid (HXZ.out.stay0 HS4.out)
              have HT4 := Lib.hid (HTZ.out.trans HS4.out)
              have HW4 := Lib.hid (show w2.heap.size ≤ z4.heap.size from Nat.le_trans (show w2.heap.size ≤ z3.heap.size from HS3.out.size) HS4.out.size)
              clear h0 b0
              have hcj : ¬ c = j := by omega
              have HCUT := Lib.hid (HX4.out.cut_some (m := j) (by omega) hcj)
              go_wp2_with (at_builtin; refine wpList_append_en rfl (.tmp 50) (.tmp 53) 22 rfl Tryz.underlying22 rfl rfl HO4.out HCUT.out (by rw [List.length_append, List.length_take, List.length_singleton, List.length_drop]; have := HL.out; omega) HW4.out ?_; intro v5 w5 ho5 hs5 hb5; have HO5 := Lib.hid ho5; have HS5 := Lib.hid hs5; clear ho5 hs5 hb5)
              go_ret
              exact ⟨_, rfl, by rw [HPT.out]; exact HO5.out.rebase (fun k hk => by have h1 := (HO5.out.lt k hk).1; have h2 := HSW.out; omega), stay_seal ((HT4.out.mono (Y := fun k => v2.ownBlock = some k) (fun _ x => x.elim)).trans HS5.out) (fun k hk => by have h1 := (HO4.out.lt k hk).1; have h2 := HSW.out; omega)⟩
          refine AllReadyH.cons (o := _) rfl (fun K hK => ?_) ?_
          · refine step_one_en rfl (.tmp 31) rfl (norm e) rfl ?_
            have hbn := Box.new w2.drew (norm e)
            have hsn : Stay (fun _ => False) w2.drew (w2.drew.alloc (.cells (enC (norm e)).toArray 27)) := Stay.alloc _ _
            obtain ⟨za, hza⟩ : ∃ za, w2.drew.alloc (.cells (enC (norm e)).toArray 27) = za := ⟨_, rfl⟩
            rw [hza] at hbn hsn ⊢
            have HSA := Lib.hid hsn
            refine Shut.out hK _ _ HSA.out (fun _ => ?_)
            have HXA := Lib.hid ((show EnS w2.drew _ L from HXW.out).stay0 hsn)
            have HZA := Lib.hid (show w2.heap.size ≤ za.heap.size from hsn.size)
            have HBN := Lib.hid hbn
            clear hbn hsn hza hK
            refine wpAnyH_listedL #[true, true, true, true, false, true, true, false, false] (by kernel_rfl) ?_
            conv => arg 8; simp [Act.put]
            refine wpAnyH_one #[true, true, true, true, true, true, true, false, false] (i := 4) rfl (by kernel_rfl) (by kernel_rfl) (fun K hK => ?_)
            refine step_append_en rfl (.tmp 26) (.tmp 29) 22 rfl Tryz.underlying22 rfl rfl (EnO.nil w2.heap.size za) ((show EnS za (.slice (some ⟨g, o, none⟩) L.length c) L from HXA.out).first hjl) (by rw [List.length_nil, List.length_take]; have := HL.out; omega) (by have := HZA.out; omega) ?_
            intro v1 z1 ho1 hs1 hb1
            have hs1' : Stay (fun _ => False) za z1 := hs1.mono (fun k hk => by cases hk)
            have HS1 := Lib.hid (HSA.out.trans hs1')
            have HSL := Lib.hid hs1'
            refine hK _ _ HS1.out ?_
            have HO1 := Lib.hid (show EnO w2.heap.size z1 v1 (L.take j) from ho1)
            clear ho1 hs1 hs1' hb1 hK
            conv => arg 8; simp [Act.put]
            refine wpAnyH_one #[true, true, true, true, true, true, true, true, false] (i := 7) rfl (by kernel_rfl) (by kernel_rfl) (fun K hK => ?_)
            refine step_append_en rfl (.tmp 30) (.tmp 32) 22 rfl Tryz.underlying22 rfl rfl HO1.out ((HBN.out.stay0 HSL.out).one 1 (by decide) (by decide)) (by rw [List.length_take, List.length_singleton]; have := HL.out; omega) (by exact HS1.out.size) ?_
            intro v2 z3 ho3 hs3 hb3
            have HS3 := Lib.hid (stay_seal (((HS1.out).mono (Y := fun k => v1.ownBlock = some k) (fun _ x => x.elim)).trans hs3) (fun k hk => ((HO1.out).lt k hk).1))
            have HO3 := Lib.hid ho3
            refine hK _ _ HS3.out ?_
            clear ho3 hs3 hb3 hK
            conv => arg 8; simp [Act.put]
            refine wpAnyH_takeL (i := 8) (v := v2) #[true, true, true, true, true, true, true, true, true] rfl (by kernel_rfl) (by kernel_rfl) (by kernel_rfl) (fun _ _ _ h => h) (by kernel_rfl) HS3.out (Or.inl ⟨by rfl, fun W hW => ?_⟩) ?_
            · go_simp
            conv => arg 8; simp [Act.put]
            refine wpAnyH_done (by kernel_rfl) ?_ _
            go_wp2
            have HTZ := Lib.hid (HTW.out.trans (Stay.drew.trans HS3.out))
            have HXZ := Lib.hid ((show EnS w2.drew _ L from HXW.out).stay0 HS3.out)
            have HBZ := Lib.hid ((show Box w2.drew w.heap.size (norm e) from HBW.out).stay0 HS3.out)
            have HSW := Lib.hid (HTW.out.size)
            have b0 := HBZ.out.c (j := 0) rfl
            rw [norm_k] at b0
            obtain ⟨g9, o9, e9, _, hc9⟩ := HXZ.out.at (by omega)
            cases e9
            obtain ⟨h0, _, _⟩ := hc9 _ q HQ.out
            clear hc9
            by_cases hk : q.k = e.k
            · have HPT := Lib.hid (show putL L e = (L.take j ++ [norm e]) ++ L.drop (j + 1) by unfold putL; rw [show hasB L e.k = true by unfold hasB; rw [HP.out, HQ.out]; simpa using hk, HP.out]; simp)
              rw [hk] at h0
              go_quiet (fail)
              have HS4 := Lib.hid (stay_drewN (X := fun _ => False) z3 nq)
              generalize z3.drewN nq = z4 at *
              have HO4 := Lib.hid (HO3.out.stay0 HS4.out)
              have HX4 := Lib.hid (HXZ.out.stay0 HS4.out)
              have HT4 := Lib.hid (HTZ.out.trans HS4.out)
              have HW4 := Lib.hid (show w2.heap.size ≤ z4.heap.size from Nat.le_trans (show w2.heap.size ≤ z3.heap.size from HS3.out.size) HS4.out.size)
              clear h0 b0
              by_cases hcm1 : c = j + 1
              · subst hcm1
                have HCUT := Lib.hid (show EnS z4 (.slice (some ⟨g, o, none⟩) 0 0) (L.drop (j + 1)) by rw [List.drop_eq_nil_of_le (by omega)]; exact EnS.empty _ _)
                go_wp2_with (at_builtin; refine wpList_append_en rfl (.tmp 50) (.tmp 53) 22 rfl Tryz.underlying22 rfl rfl HO4.out HCUT.out (by rw [List.length_append, List.length_take, List.length_singleton, List.length_drop]; have := HL.out; omega) HW4.out ?_; intro v5 w5 ho5 hs5 hb5; have HO5 := Lib.hid ho5; have HS5 := Lib.hid hs5; clear ho5 hs5 hb5)
                go_ret
                exact ⟨_, rfl, by rw [HPT.out]; exact HO5.out.rebase (fun k hk => by have h1 := (HO5.out.lt k hk).1; have h2 := HSW.out; omega), stay_seal ((HT4.out.mono (Y := fun k => v2.ownBlock = some k) (fun _ x => x.elim)).trans HS5.out) (fun k hk => by have h1 := (HO4.out.lt k hk).1; have h2 := HSW.out; omega)⟩
              · have HCUT := Lib.hid (HX4.out.cut_some (m := j + 1) (by omega) hcm1)
                go_wp2_with (at_builtin; refine wpList_append_en rfl (.tmp 50) (.tmp 53) 22 rfl Tryz.underlying22 rfl rfl HO4.out HCUT.out (by rw [List.length_append, List.length_take, List.length_singleton, List.length_drop]; have := HL.out; omega) HW4.out ?_; intro v5 w5 ho5 hs5 hb5; have HO5 := Lib.hid ho5; have HS5 := Lib.hid hs5; clear ho5 hs5 hb5)
                go_ret
                exact ⟨_, rfl, by rw [HPT.out]; exact HO5.out.rebase (fun k hk => by have h1 := (HO5.out.lt k hk).1; have h2 := HSW.out; omega), stay_seal ((HT4.out.mono (Y := fun k => v2.ownBlock = some k) (fun _ x => x.elim)).trans HS5.out) (fun k hk => by have h1 := (HO4.out.lt k hk).1; have h2 := HSW.out; omega)⟩
            · have HPT := Lib.hid (show putL L e = (L.take j ++ [norm e]) ++ L.drop j by unfold putL; rw [show hasB L e.k = false by unfold hasB; rw [HP.out, HQ.out]; simpa using hk, HP.out]; simp)
              have hkb : (q.k == e.k) = false := by simpa using hk
              go_quiet (fail)
              have HS4 := Lib.hid (stay_drewN (X := fun _ => False) z3 nq)
              generalize z3.drewN nq = z4 at *
              have HO4 := Lib.hid (HO3.out.stay0 HS4.out)
              have HX4 := Lib.hid (HXZ.out.stay0 HS4.out)
              have HT4 := Lib.hid (HTZ.out.trans HS4.out)
              have HW4 := Lib.hid (show w2.heap.size ≤ z4.heap.size from Nat.le_trans (show w2.heap.size ≤ z3.heap.size from HS3.out.size) HS4.out.size)
              clear h0 b0
              have hcj : ¬ c = j := by omega
              have HCUT := Lib.hid (HX4.out.cut_some (m := j) (by omega) hcj)
              go_wp2_with (at_builtin; refine wpList_append_en rfl (.tmp 50) (.tmp 53) 22 rfl Tryz.underlying22 rfl rfl HO4.out HCUT.out (by rw [List.length_append, List.length_take, List.length_singleton, List.length_drop]; have := HL.out; omega) HW4.out ?_; intro v5 w5 ho5 hs5 hb5; have HO5 := Lib.hid ho5; have HS5 := Lib.hid hs5; clear ho5 hs5 hb5)
              go_ret
              exact ⟨_, rfl, by rw [HPT.out]; exact HO5.out.rebase (fun k hk => by have h1 := (HO5.out.lt k hk).1; have h2 := HSW.out; omega), stay_seal ((HT4.out.mono (Y := fun k => v2.ownBlock = some k) (fun _ x => x.elim)).trans HS5.out) (fun k hk => by have h1 := (HO4.out.lt k hk).1; have h2 := HSW.out; omega)⟩
          exact AllReadyH.nil
      · obtain rfl : j = L.length := by omega
        have HP := Lib.hid (show posN L e.k = L.length by omega)
        clear hj hple
        cases a0 with
        | none =>
          obtain rfl := HNIL.out rfl
          have hL0 : L.length = 0 := by omega
          have hLn : L = [] := List.eq_nil_of_length_eq_zero hL0
          have hjl : 0 ≤ L.length := Nat.zero_le _
          rw [hL0] at HP ⊢
          go_wp2
          go_quiet (fail)
          have HS2 := Lib.hid (stay_drewN (X := fun _ => False) wr nq)
          generalize wr.drewN nq = w2 at *
          clear b0
          have HXW := Lib.hid (HXR.out.stay0 HS2.out)
          have HBW := Lib.hid (HBR.out.stay0 HS2.out)
          have HTW := Lib.hid (HST.out.trans (HT.out.trans HS2.out))
          have HLW := Lib.hid (show w.heap.size + 1 ≤ w2.heap.size by have h1 := (HT.out.trans HS2.out).size; have h2 := HSZ.out; omega)
          clear HXR HBR HS2
          go_wp2
          refine wp_region_held (S := Stay (fun _ => False) w2.drew) (by kernel_rfl) ?_
          change wpAnyH _ _ _ _ _ _ _ _ (World.drew _)
          refine wpAnyH_takeL (i := 0) (v := .slice none 0 0) #[true, false, false, false, false, false, false, false, false] rfl (by kernel_rfl) (by kernel_rfl) (by kernel_rfl) (fun _ _ _ h => h) (by kernel_rfl) (Stay.refl _ _) (Or.inl ⟨by rfl, fun W hW => ?_⟩) ?_
          · go_simp
          conv => arg 8; simp [Act.put]
          refine wpAnyH_takeL (i := 1) (v := .slice none 0 0) #[true, true, false, false, false, false, false, false, false] rfl (by kernel_rfl) (by kernel_rfl) (by kernel_rfl) (fun _ _ _ h => h) (by kernel_rfl) (Stay.refl _ _) (Or.inl ⟨by rfl, fun W hW => ?_⟩) ?_
          · go_simp
          conv => arg 8; simp [Act.put]
          refine wpAnyH_takeL (i := 2) (v := .int .i64 0) #[true, true, true, false, false, false, false, false, false] rfl (by kernel_rfl) (by kernel_rfl) (by kernel_rfl) (fun _ _ _ h => h) (by kernel_rfl) (Stay.refl _ _) (Or.inl ⟨by rfl, fun W hW => ?_⟩) ?_
          · go_simp
          conv => arg 8; simp [Act.put]
          refine wpAnyH_takeL (i := 3) (v := .slice none 0 0) #[true, true, true, true, false, false, false, false, false] rfl (by kernel_rfl) (by kernel_rfl) (by kernel_rfl) (fun _ _ _ h => h) (by kernel_rfl) (Stay.refl _ _) (Or.inl ⟨by rfl, fun W hW => ?_⟩) ?_
          · (go_simp; try (intro hcj; exfalso; omega))
          conv => arg 8; simp [Act.put]
          refine wpAnyH_takeL (i := 5) #[true, true, true, true, false, true, false, false, false] rfl (by kernel_rfl) (by kernel_rfl) (by kernel_rfl) (fun _ _ _ h => h) (by kernel_rfl) (Stay.refl _ _) (yieldsIf_load rfl 27 (.tmp 3) rfl ⟨w.heap.size, 0, none⟩ rfl _ (fun W hW => ((show Box w2.drew w.heap.size (norm e) from HBW.out).stay0 hW).run_load)) ?_
          conv => arg 8; simp [Act.put]
          refine wpAnyH_ready (rs := [4, 6]) (by kernel_rfl) (by simp) ?_
          refine AllReadyH.cons (o := _) rfl (fun K hK => ?_) ?_
          · refine step_append_en rfl (.tmp 26) (.tmp 29) 22 rfl Tryz.underlying22 rfl rfl (EnO.nil w2.heap.size w2.drew) ((show EnS w2.drew (.slice none L.length 0) L from HXW.out).first hjl) (by rw [List.length_nil, List.length_take]; have := HL.out; omega) (by exact Nat.le_refl _) ?_
            intro v1 z1 ho1 hs1 hb1
            have hs1' : Stay (fun _ => False) w2.drew z1 := hs1.mono (fun k hk => by cases hk)
            have HS1 := Lib.hid hs1'
            refine Shut.out hK _ _ HS1.out (fun _ => ?_)
            have HO1 := Lib.hid (show EnO w2.heap.size z1 v1 (L.take 0) from ho1)
            clear ho1 hs1 hs1' hb1 hK
            refine wpAnyH_listedL #[true, true, true, true, true, true, false, false, false] (by kernel_rfl) ?_
            conv => arg 8; simp [Act.put]
            refine wpAnyH_one #[true, true, true, true, true, true, true, false, false] (i := 6) rfl (by kernel_rfl) (by kernel_rfl) (fun K hK => ?_)
            refine step_one_en rfl (.tmp 31) rfl (norm e) rfl ?_
            have hbn := Box.new z1 (norm e)
            have hsn : Stay (fun _ => False) z1 (z1.alloc (.cells (enC (norm e)).toArray 27)) := Stay.alloc _ _
            obtain ⟨za, hza⟩ : ∃ za, z1.alloc (.cells (enC (norm e)).toArray 27) = za := ⟨_, rfl⟩
            rw [hza] at hbn hsn ⊢
            have HSA := Lib.hid (HS1.out.trans hsn)
            have HO2 := Lib.hid (HO1.out.stay0 hsn)
            refine hK _ _ HSA.out ?_
            have HBN := Lib.hid hbn
            clear hbn hsn hza hK
            conv => arg 8; simp [Act.put]
            refine wpAnyH_one #[true, true, true, true, true, true, true, true, false] (i := 7) rfl (by kernel_rfl) (by kernel_rfl) (fun K hK => ?_)
            refine step_append_en rfl (.tmp 30) (.tmp 32) 22 rfl Tryz.underlying22 rfl rfl HO2.out (HBN.out.one 1 (by decide) (by decide)) (by rw [List.length_take, List.length_singleton]; have := HL.out; omega) (by exact HSA.out.size) ?_
            intro v2 z3 ho3 hs3 hb3
            have HS3 := Lib.hid (stay_seal (((HSA.out).mono (Y := fun k => v1.ownBlock = some k) (fun _ x => x.elim)).trans hs3) (fun k hk => ((HO2.out).lt k hk).1))
            have HO3 := Lib.hid ho3
            refine hK _ _ HS3.out ?_
            clear ho3 hs3 hb3 hK
            conv => arg 8; simp [Act.put]
            refine wpAnyH_takeL (i := 8) (v := v2) #[true, true, true, true, true, true, true, true, true] rfl (by kernel_rfl) (by kernel_rfl) (by kernel_rfl) (fun _ _ _ h => h) (by kernel_rfl) HS3.out (Or.inl ⟨by rfl, fun W hW => ?_⟩) ?_
            · go_simp
            conv => arg 8; simp [Act.put]
            refine wpAnyH_done (by kernel_rfl) ?_ _
            go_wp2
            have HTZ := Lib.hid (HTW.out.trans (Stay.drew.trans HS3.out))
            have HXZ := Lib.hid ((show EnS w2.drew _ L from HXW.out).stay0 HS3.out)
            have HBZ := Lib.hid ((show Box w2.drew w.heap.size (norm e) from HBW.out).stay0 HS3.out)
            have HSW := Lib.hid (HTW.out.size)
            have b0 := HBZ.out.c (j := 0) rfl
            rw [norm_k] at b0
            have HPT := Lib.hid (show putL L e = (L.take 0 ++ [norm e]) ++ [] by unfold putL; rw [show hasB L e.k = false by unfold hasB; rw [HP.out, List.getElem?_eq_none (by omega)], HP.out]; simp [hLn])
            go_quiet (fail)
            have HS4 := Lib.hid (stay_drewN (X := fun _ => False) z3 nq)
            generalize z3.drewN nq = z4 at *
            have HO4 := Lib.hid (HO3.out.stay0 HS4.out)
            have HT4 := Lib.hid (HTZ.out.trans HS4.out)
            have HW4 := Lib.hid (show w2.heap.size ≤ z4.heap.size from Nat.le_trans (show w2.heap.size ≤ z3.heap.size from HS3.out.size) HS4.out.size)
            clear b0
            have HCUT := Lib.hid (EnS.nil z4)
            go_wp2_with (at_builtin; refine wpList_append_en rfl (.tmp 50) (.tmp 53) 22 rfl Tryz.underlying22 rfl rfl HO4.out HCUT.out (by rw [List.length_append, List.length_take, List.length_singleton, List.length_nil]; have := HL.out; omega) HW4.out ?_; intro v5 w5 ho5 hs5 hb5; have HO5 := Lib.hid ho5; have HS5 := Lib.hid hs5; clear ho5 hs5 hb5)
            go_ret
            exact ⟨_, rfl, by rw [HPT.out]; exact HO5.out.rebase (fun k hk => by have h1 := (HO5.out.lt k hk).1; have h2 := HSW.out; omega), stay_seal ((HT4.out.mono (Y := fun k => v2.ownBlock = some k) (fun _ x => x.elim)).trans HS5.out) (fun k hk => by have h1 := (HO4.out.lt k hk).1; have h2 := HSW.out; omega)⟩
          refine AllReadyH.cons (o := _) rfl (fun K hK => ?_) ?_
          · refine step_one_en rfl (.tmp 31) rfl (norm e) rfl ?_
            have hbn := Box.new w2.drew (norm e)
            have hsn : Stay (fun _ => False) w2.drew (w2.drew.alloc (.cells (enC (norm e)).toArray 27)) := Stay.alloc _ _
            obtain ⟨za, hza⟩ : ∃ za, w2.drew.alloc (.cells (enC (norm e)).toArray 27) = za := ⟨_, rfl⟩
            rw [hza] at hbn hsn ⊢
            have HSA := Lib.hid hsn
            refine Shut.out hK _ _ HSA.out (fun _ => ?_)
            have HXA := Lib.hid ((show EnS w2.drew _ L from HXW.out).stay0 hsn)
            have HZA := Lib.hid (show w2.heap.size ≤ za.heap.size from hsn.size)
            have HBN := Lib.hid hbn
            clear hbn hsn hza hK
            refine wpAnyH_listedL #[true, true, true, true, false, true, true, false, false] (by kernel_rfl) ?_
            conv => arg 8; simp [Act.put]
            refine wpAnyH_one #[true, true, true, true, true, true, true, false, false] (i := 4) rfl (by kernel_rfl) (by kernel_rfl) (fun K hK => ?_)
            refine step_append_en rfl (.tmp 26) (.tmp 29) 22 rfl Tryz.underlying22 rfl rfl (EnO.nil w2.heap.size za) ((show EnS za (.slice none L.length 0) L from HXA.out).first hjl) (by rw [List.length_nil, List.length_take]; have := HL.out; omega) (by have := HZA.out; omega) ?_
            intro v1 z1 ho1 hs1 hb1
            have hs1' : Stay (fun _ => False) za z1 := hs1.mono (fun k hk => by cases hk)
            have HS1 := Lib.hid (HSA.out.trans hs1')
            have HSL := Lib.hid hs1'
            refine hK _ _ HS1.out ?_
            have HO1 := Lib.hid (show EnO w2.heap.size z1 v1 (L.take 0) from ho1)
            clear ho1 hs1 hs1' hb1 hK
            conv => arg 8; simp [Act.put]
            refine wpAnyH_one #[true, true, true, true, true, true, true, true, false] (i := 7) rfl (by kernel_rfl) (by kernel_rfl) (fun K hK => ?_)
            refine step_append_en rfl (.tmp 30) (.tmp 32) 22 rfl Tryz.underlying22 rfl rfl HO1.out ((HBN.out.stay0 HSL.out).one 1 (by decide) (by decide)) (by rw [List.length_take, List.length_singleton]; have := HL.out; omega) (by exact HS1.out.size) ?_
            intro v2 z3 ho3 hs3 hb3
            have HS3 := Lib.hid (stay_seal (((HS1.out).mono (Y := fun k => v1.ownBlock = some k) (fun _ x => x.elim)).trans hs3) (fun k hk => ((HO1.out).lt k hk).1))
            have HO3 := Lib.hid ho3
            refine hK _ _ HS3.out ?_
            clear ho3 hs3 hb3 hK
            conv => arg 8; simp [Act.put]
            refine wpAnyH_takeL (i := 8) (v := v2) #[true, true, true, true, true, true, true, true, true] rfl (by kernel_rfl) (by kernel_rfl) (by kernel_rfl) (fun _ _ _ h => h) (by kernel_rfl) HS3.out (Or.inl ⟨by rfl, fun W hW => ?_⟩) ?_
            · go_simp
            conv => arg 8; simp [Act.put]
            refine wpAnyH_done (by kernel_rfl) ?_ _
            go_wp2
            have HTZ := Lib.hid (HTW.out.trans (Stay.drew.trans HS3.out))
            have HXZ := Lib.hid ((show EnS w2.drew _ L from HXW.out).stay0 HS3.out)
            have HBZ := Lib.hid ((show Box w2.drew w.heap.size (norm e) from HBW.out).stay0 HS3.out)
            have HSW := Lib.hid (HTW.out.size)
            have b0 := HBZ.out.c (j := 0) rfl
            rw [norm_k] at b0
            have HPT := Lib.hid (show putL L e = (L.take 0 ++ [norm e]) ++ [] by unfold putL; rw [show hasB L e.k = false by unfold hasB; rw [HP.out, List.getElem?_eq_none (by omega)], HP.out]; simp [hLn])
            go_quiet (fail)
            have HS4 := Lib.hid (stay_drewN (X := fun _ => False) z3 nq)
            generalize z3.drewN nq = z4 at *
            have HO4 := Lib.hid (HO3.out.stay0 HS4.out)
            have HT4 := Lib.hid (HTZ.out.trans HS4.out)
            have HW4 := Lib.hid (show w2.heap.size ≤ z4.heap.size from Nat.le_trans (show w2.heap.size ≤ z3.heap.size from HS3.out.size) HS4.out.size)
            clear b0
            have HCUT := Lib.hid (EnS.nil z4)
            go_wp2_with (at_builtin; refine wpList_append_en rfl (.tmp 50) (.tmp 53) 22 rfl Tryz.underlying22 rfl rfl HO4.out HCUT.out (by rw [List.length_append, List.length_take, List.length_singleton, List.length_nil]; have := HL.out; omega) HW4.out ?_; intro v5 w5 ho5 hs5 hb5; have HO5 := Lib.hid ho5; have HS5 := Lib.hid hs5; clear ho5 hs5 hb5)
            go_ret
            exact ⟨_, rfl, by rw [HPT.out]; exact HO5.out.rebase (fun k hk => by have h1 := (HO5.out.lt k hk).1; have h2 := HSW.out; omega), stay_seal ((HT4.out.mono (Y := fun k => v2.ownBlock = some k) (fun _ x => x.elim)).trans HS5.out) (fun k hk => by have h1 := (HO4.out.lt k hk).1; have h2 := HSW.out; omega)⟩
          exact AllReadyH.nil
        | some ad =>
          have hjl : L.length ≤ L.length := Nat.le_refl _
          go_wp2
          go_quiet (fail)
          have HS2 := Lib.hid (stay_drewN (X := fun _ => False) wr nq)
          generalize wr.drewN nq = w2 at *
          clear b0
          have HXW := Lib.hid (HXR.out.stay0 HS2.out)
          have HBW := Lib.hid (HBR.out.stay0 HS2.out)
          have HTW := Lib.hid (HST.out.trans (HT.out.trans HS2.out))
          have HLW := Lib.hid (show w.heap.size + 1 ≤ w2.heap.size by have h1 := (HT.out.trans HS2.out).size; have h2 := HSZ.out; omega)
          clear HXR HBR HS2
          go_wp2
          refine wp_region_held (S := Stay (fun _ => False) w2.drew) (by kernel_rfl) ?_
          change wpAnyH _ _ _ _ _ _ _ _ (World.drew _)
          refine wpAnyH_takeL (i := 0) (v := .slice none 0 0) #[true, false, false, false, false, false, false, false, false] rfl (by kernel_rfl) (by kernel_rfl) (by kernel_rfl) (fun _ _ _ h => h) (by kernel_rfl) (Stay.refl _ _) (Or.inl ⟨by rfl, fun W hW => ?_⟩) ?_
          · go_simp
          conv => arg 8; simp [Act.put]
          refine wpAnyH_takeL (i := 1) (v := .slice (some ad) L.length c) #[true, true, false, false, false, false, false, false, false] rfl (by kernel_rfl) (by kernel_rfl) (by kernel_rfl) (fun _ _ _ h => h) (by kernel_rfl) (Stay.refl _ _) (Or.inl ⟨by rfl, fun W hW => ?_⟩) ?_
          · go_simp
          conv => arg 8; simp [Act.put]
          refine wpAnyH_takeL (i := 2) (v := .int .i64 (L.length : Int)) #[true, true, true, false, false, false, false, false, false] rfl (by kernel_rfl) (by kernel_rfl) (by kernel_rfl) (fun _ _ _ h => h) (by kernel_rfl) (Stay.refl _ _) (Or.inl ⟨by rfl, fun W hW => ?_⟩) ?_
          · go_simp
          conv => arg 8; simp [Act.put]
          refine wpAnyH_takeL (i := 3) (v := .slice (some ad) L.length c) #[true, true, true, true, false, false, false, false, false] rfl (by kernel_rfl) (by kernel_rfl) (by kernel_rfl) (fun _ _ _ h => h) (by kernel_rfl) (Stay.refl _ _) (Or.inl ⟨by rfl, fun W hW => ?_⟩) ?_
          · (go_simp; try (intro hcj; exfalso; omega))
          conv => arg 8; simp [Act.put]
          refine wpAnyH_takeL (i := 5) #[true, true, true, true, false, true, false, false, false] rfl (by kernel_rfl) (by kernel_rfl) (by kernel_rfl) (fun _ _ _ h => h) (by kernel_rfl) (Stay.refl _ _) (yieldsIf_load rfl 27 (.tmp 3) rfl ⟨w.heap.size, 0, none⟩ rfl _ (fun W hW => ((show Box w2.drew w.heap.size (norm e) from HBW.out).stay0 hW).run_load)) ?_
          conv => arg 8; simp [Act.put]
          refine wpAnyH_ready (rs := [4, 6]) (by kernel_rfl) (by simp) ?_
          refine AllReadyH.cons (o := _) rfl (fun K hK => ?_) ?_
          · refine step_append_en rfl (.tmp 26) (.tmp 29) 22 rfl Tryz.underlying22 rfl rfl (EnO.nil w2.heap.size w2.drew) ((show EnS w2.drew (.slice (some ad) L.length c) L from HXW.out).first hjl) (by rw [List.length_nil, List.length_take]; have := HL.out; omega) (by exact Nat.le_refl _) ?_
            intro v1 z1 ho1 hs1 hb1
            have hs1' : Stay (fun _ => False) w2.drew z1 := hs1.mono (fun k hk => by cases hk)
            have HS1 := Lib.hid hs1'
            refine Shut.out hK _ _ HS1.out (fun _ => ?_)
            have HO1 := Lib.hid (show EnO w2.heap.size z1 v1 (L.take L.length) from ho1)
            clear ho1 hs1 hs1' hb1 hK
            refine wpAnyH_listedL #[true, true, true, true, true, true, false, false, false] (by kernel_rfl) ?_
            conv => arg 8; simp [Act.put]
            refine wpAnyH_one #[true, true, true, true, true, true, true, false, false] (i := 6) rfl (by kernel_rfl) (by kernel_rfl) (fun K hK => ?_)
            refine step_one_en rfl (.tmp 31) rfl (norm e) rfl ?_
            have hbn := Box.new z1 (norm e)
            have hsn : Stay (fun _ => False) z1 (z1.alloc (.cells (enC (norm e)).toArray 27)) := Stay.alloc _ _
            obtain ⟨za, hza⟩ : ∃ za, z1.alloc (.cells (enC (norm e)).toArray 27) = za := ⟨_, rfl⟩
            rw [hza] at hbn hsn ⊢
            have HSA := Lib.hid (HS1.out.trans hsn)
            have HO2 := Lib.hid (HO1.out.stay0 hsn)
            refine hK _ _ HSA.out ?_
            have HBN := Lib.hid hbn
            clear hbn hsn hza hK
            conv => arg 8; simp [Act.put]
            refine wpAnyH_one #[true, true, true, true, true, true, true, true, false] (i := 7) rfl (by kernel_rfl) (by kernel_rfl) (fun K hK => ?_)
            refine step_append_en rfl (.tmp 30) (.tmp 32) 22 rfl Tryz.underlying22 rfl rfl HO2.out (HBN.out.one 1 (by decide) (by decide)) (by rw [List.length_take, List.length_singleton]; have := HL.out; omega) (by exact HSA.out.size) ?_
            intro v2 z3 ho3 hs3 hb3
            have HS3 := Lib.hid (stay_seal (((HSA.out).mono (Y := fun k => v1.ownBlock = some k) (fun _ x => x.elim)).trans hs3) (fun k hk => ((HO2.out).lt k hk).1))
            have HO3 := Lib.hid ho3
            refine hK _ _ HS3.out ?_
            clear ho3 hs3 hb3 hK
            conv => arg 8; simp [Act.put]
            refine wpAnyH_takeL (i := 8) (v := v2) #[true, true, true, true, true, true, true, true, true] rfl (by kernel_rfl) (by kernel_rfl) (by kernel_rfl) (fun _ _ _ h => h) (by kernel_rfl) HS3.out (Or.inl ⟨by rfl, fun W hW => ?_⟩) ?_
            · go_simp
            conv => arg 8; simp [Act.put]
            refine wpAnyH_done (by kernel_rfl) ?_ _
            go_wp2
            have HTZ := Lib.hid (HTW.out.trans (Stay.drew.trans HS3.out))
            have HXZ := Lib.hid ((show EnS w2.drew _ L from HXW.out).stay0 HS3.out)
            have HBZ := Lib.hid ((show Box w2.drew w.heap.size (norm e) from HBW.out).stay0 HS3.out)
            have HSW := Lib.hid (HTW.out.size)
            have b0 := HBZ.out.c (j := 0) rfl
            rw [norm_k] at b0
            have HPT := Lib.hid (show putL L e = (L.take L.length ++ [norm e]) ++ [] by unfold putL; rw [show hasB L e.k = false by unfold hasB; rw [HP.out, List.getElem?_eq_none (by omega)], HP.out]; simp)
            go_quiet (fail)
            have HS4 := Lib.hid (stay_drewN (X := fun _ => False) z3 nq)
            generalize z3.drewN nq = z4 at *
            have HO4 := Lib.hid (HO3.out.stay0 HS4.out)
            have HT4 := Lib.hid (HTZ.out.trans HS4.out)
            have HW4 := Lib.hid (show w2.heap.size ≤ z4.heap.size from Nat.le_trans (show w2.heap.size ≤ z3.heap.size from HS3.out.size) HS4.out.size)
            clear b0
            by_cases hcm1 : c = L.length
            · subst hcm1
              have HCUT := Lib.hid (EnS.empty z4 ad)
              go_wp2_with (at_builtin; refine wpList_append_en rfl (.tmp 50) (.tmp 53) 22 rfl Tryz.underlying22 rfl rfl HO4.out HCUT.out (by rw [List.length_append, List.length_take, List.length_singleton, List.length_nil]; have := HL.out; omega) HW4.out ?_; intro v5 w5 ho5 hs5 hb5; have HO5 := Lib.hid ho5; have HS5 := Lib.hid hs5; clear ho5 hs5 hb5)
              go_ret
              exact ⟨_, rfl, by rw [HPT.out]; exact HO5.out.rebase (fun k hk => by have h1 := (HO5.out.lt k hk).1; have h2 := HSW.out; omega), stay_seal ((HT4.out.mono (Y := fun k => v2.ownBlock = some k) (fun _ x => x.elim)).trans HS5.out) (fun k hk => by have h1 := (HO4.out.lt k hk).1; have h2 := HSW.out; omega)⟩
            · have HCUT := Lib.hid (show EnS z4 (.slice (some (ad.add (L.length * 3))) 0 (c - L.length)) [] from ⟨_, _, rfl, Nat.zero_le _, by omega, (fun h => by cases h), fun h => absurd h (Nat.lt_irrefl 0)⟩)
              go_wp2_with (at_builtin; refine wpList_append_en rfl (.tmp 50) (.tmp 53) 22 rfl Tryz.underlying22 rfl rfl HO4.out HCUT.out (by rw [List.length_append, List.length_take, List.length_singleton, List.length_nil]; have := HL.out; omega) HW4.out ?_; intro v5 w5 ho5 hs5 hb5; have HO5 := Lib.hid ho5; have HS5 := Lib.hid hs5; clear ho5 hs5 hb5)
              go_ret
              exact ⟨_, rfl, by rw [HPT.out]; exact HO5.out.rebase (fun k hk => by have h1 := (HO5.out.lt k hk).1; have h2 := HSW.out; omega), stay_seal ((HT4.out.mono (Y := fun k => v2.ownBlock = some k) (fun _ x => x.elim)).trans HS5.out) (fun k hk => by have h1 := (HO4.out.lt k hk).1; have h2 := HSW.out; omega)⟩
          refine AllReadyH.cons (o := _) rfl (fun K hK => ?_) ?_
          · refine step_one_en rfl (.tmp 31) rfl (norm e) rfl ?_
            have hbn := Box.new w2.drew (norm e)
            have hsn : Stay (fun _ => False) w2.drew (w2.drew.alloc (.cells (enC (norm e)).toArray 27)) := Stay.alloc _ _
            obtain ⟨za, hza⟩ : ∃ za, w2.drew.alloc (.cells (enC (norm e)).toArray 27) = za := ⟨_, rfl⟩
            rw [hza] at hbn hsn ⊢
            have HSA := Lib.hid hsn
            refine Shut.out hK _ _ HSA.out (fun _ => ?_)
            have HXA := Lib.hid ((show EnS w2.drew _ L from HXW.out).stay0 hsn)
            have HZA := Lib.hid (show w2.heap.size ≤ za.heap.size from hsn.size)
            have HBN := Lib.hid hbn
            clear hbn hsn hza hK
            refine wpAnyH_listedL #[true, true, true, true, false, true, true, false, false] (by kernel_rfl) ?_
            conv => arg 8; simp [Act.put]
            refine wpAnyH_one #[true, true, true, true, true, true, true, false, false] (i := 4) rfl (by kernel_rfl) (by kernel_rfl) (fun K hK => ?_)
            refine step_append_en rfl (.tmp 26) (.tmp 29) 22 rfl Tryz.underlying22 rfl rfl (EnO.nil w2.heap.size za) ((show EnS za (.slice (some ad) L.length c) L from HXA.out).first hjl) (by rw [List.length_nil, List.length_take]; have := HL.out; omega) (by have := HZA.out; omega) ?_
            intro v1 z1 ho1 hs1 hb1
            have hs1' : Stay (fun _ => False) za z1 := hs1.mono (fun k hk => by cases hk)
            have HS1 := Lib.hid (HSA.out.trans hs1')
            have HSL := Lib.hid hs1'
            refine hK _ _ HS1.out ?_
            have HO1 := Lib.hid (show EnO w2.heap.size z1 v1 (L.take L.length) from ho1)
            clear ho1 hs1 hs1' hb1 hK
            conv => arg 8; simp [Act.put]
            refine wpAnyH_one #[true, true, true, true, true, true, true, true, false] (i := 7) rfl (by kernel_rfl) (by kernel_rfl) (fun K hK => ?_)
            refine step_append_en rfl (.tmp 30) (.tmp 32) 22 rfl Tryz.underlying22 rfl rfl HO1.out ((HBN.out.stay0 HSL.out).one 1 (by decide) (by decide)) (by rw [List.length_take, List.length_singleton]; have := HL.out; omega) (by exact HS1.out.size) ?_
            intro v2 z3 ho3 hs3 hb3
            have HS3 := Lib.hid (stay_seal (((HS1.out).mono (Y := fun k => v1.ownBlock = some k) (fun _ x => x.elim)).trans hs3) (fun k hk => ((HO1.out).lt k hk).1))
            have HO3 := Lib.hid ho3
            refine hK _ _ HS3.out ?_
            clear ho3 hs3 hb3 hK
            conv => arg 8; simp [Act.put]
            refine wpAnyH_takeL (i := 8) (v := v2) #[true, true, true, true, true, true, true, true, true] rfl (by kernel_rfl) (by kernel_rfl) (by kernel_rfl) (fun _ _ _ h => h) (by kernel_rfl) HS3.out (Or.inl ⟨by rfl, fun W hW => ?_⟩) ?_
            · go_simp
            conv => arg 8; simp [Act.put]
            refine wpAnyH_done (by kernel_rfl) ?_ _
            go_wp2
            have HTZ := Lib.hid (HTW.out.trans (Stay.drew.trans HS3.out))
            have HXZ := Lib.hid ((show EnS w2.drew _ L from HXW.out).stay0 HS3.out)
            have HBZ := Lib.hid ((show Box w2.drew w.heap.size (norm e) from HBW.out).stay0 HS3.out)
            have HSW := Lib.hid (HTW.out.size)
            have b0 := HBZ.out.c (j := 0) rfl
            rw [norm_k] at b0
            have HPT := Lib.hid (show putL L e = (L.take L.length ++ [norm e]) ++ [] by unfold putL; rw [show hasB L e.k = false by unfold hasB; rw [HP.out, List.getElem?_eq_none (by omega)], HP.out]; simp)
            go_quiet (fail)
            have HS4 := Lib.hid (stay_drewN (X := fun _ => False) z3 nq)
            generalize z3.drewN nq = z4 at *
            have HO4 := Lib.hid (HO3.out.stay0 HS4.out)
            have HT4 := Lib.hid (HTZ.out.trans HS4.out)
            have HW4 := Lib.hid (show w2.heap.size ≤ z4.heap.size from Nat.le_trans (show w2.heap.size ≤ z3.heap.size from HS3.out.size) HS4.out.size)
            clear b0
            by_cases hcm1 : c = L.length
            · subst hcm1
              have HCUT := Lib.hid (EnS.empty z4 ad)
              go_wp2_with (at_builtin; refine wpList_append_en rfl (.tmp 50) (.tmp 53) 22 rfl Tryz.underlying22 rfl rfl HO4.out HCUT.out (by rw [List.length_append, List.length_take, List.length_singleton, List.length_nil]; have := HL.out; omega) HW4.out ?_; intro v5 w5 ho5 hs5 hb5; have HO5 := Lib.hid ho5; have HS5 := Lib.hid hs5; clear ho5 hs5 hb5)
              go_ret
              exact ⟨_, rfl, by rw [HPT.out]; exact HO5.out.rebase (fun k hk => by have h1 := (HO5.out.lt k hk).1; have h2 := HSW.out; omega), stay_seal ((HT4.out.mono (Y := fun k => v2.ownBlock = some k) (fun _ x => x.elim)).trans HS5.out) (fun k hk => by have h1 := (HO4.out.lt k hk).1; have h2 := HSW.out; omega)⟩
            · have HCUT := Lib.hid (show EnS z4 (.slice (some (ad.add (L.length * 3))) 0 (c - L.length)) [] from ⟨_, _, rfl, Nat.zero_le _, by omega, (fun h => by cases h), fun h => absurd h (Nat.lt_irrefl 0)⟩)
              go_wp2_with (at_builtin; refine wpList_append_en rfl (.tmp 50) (.tmp 53) 22 rfl Tryz.underlying22 rfl rfl HO4.out HCUT.out (by rw [List.length_append, List.length_take, List.length_singleton, List.length_nil]; have := HL.out; omega) HW4.out ?_; intro v5 w5 ho5 hs5 hb5; have HO5 := Lib.hid ho5; have HS5 := Lib.hid hs5; clear ho5 hs5 hb5)
              go_ret
              exact ⟨_, rfl, by rw [HPT.out]; exact HO5.out.rebase (fun k hk => by have h1 := (HO5.out.lt k hk).1; have h2 := HSW.out; omega), stay_seal ((HT4.out.mono (Y := fun k => v2.ownBlock = some k) (fun _ x => x.elim)).trans HS5.out) (fun k hk => by have h1 := (HO4.out.lt k hk).1; have h2 := HSW.out; omega)⟩
          exact AllReadyH.nil
  | true =>
    have hbx : Box (w0.setCell ⟨w.heap.size, 1, none⟩ (.string ⟨#[]⟩)) w.heap.size (norm e) := by
      have h1 := heap_setCell_same w0 w.heap.size 1 _ _ (.string ⟨#[]⟩) HB0.out
      unfold Box norm
      rw [if_pos hg]
      unfold enC at h1 ⊢
      rw [hg] at h1
      exact h1
    have hst : Stay (fun _ => False) w (w0.setCell ⟨w.heap.size, 1, none⟩ (.string ⟨#[]⟩)) :=
      stay_seal (X := fun k => k = w.heap.size) ((HS0.out.mono (fun _ x => x.elim)).trans (Stay.setCell _ _ _ rfl)) (fun k hk => by have hk' : k = w.heap.size := hk; omega)
    have hsz : (w0.setCell ⟨w.heap.size, 1, none⟩ (.string ⟨#[]⟩)).heap.size = w.heap.size + 1 := by simp [HZ0.out]
    rw [hg] at c2 W0
    go_wp2_with (rw [W0.out])
    obtain ⟨wb, hwb⟩ : ∃ wb, w0.setCell ⟨w.heap.size, 1, none⟩ (.string ⟨#[]⟩) = wb := ⟨_, rfl⟩
    rw [hwb] at hbx hst hsz ⊢
    clear hwb
    have HBX := Lib.hid hbx
    have HST := Lib.hid hst
    have HSZ := Lib.hid hsz
    have HX := Lib.hid (HX0.out.stay0 hst)
    clear hbx hst hsz c0 c1 c2 f1 W0 HS0 HB0
    go_loopw [6] (fun i wr => ∃ j : Nat, i = .int .i64 (j : Int) ∧ j ≤ posN L e.k ∧ Stay (fun _ => False) wb wr) (fun i _ => L.length - (intOf i).toNat)
    case atStart => exact ⟨0, rfl, Nat.zero_le _, Stay.refl _ _⟩
    case round =>
      obtain ⟨j, rfl, hj, hst⟩ := hrel
      have hple := posN_le e.k L
      have HT := Lib.hid hst
      have HBR := Lib.hid (HBX.out.stay0 hst)
      have HXR := Lib.hid (HX.out.stay0 hst)
      clear hst
      have b0 := HBR.out.c (j := 0) rfl
      rw [norm_k] at b0
      by_cases hlt : j < L.length
      · obtain ⟨q, hq⟩ : ∃ q, L[j]? = some q := ⟨_, List.getElem?_eq_getElem hlt⟩
        obtain ⟨g, o, rfl, _, hc⟩ := HXR.out.at (by omega)
        obtain ⟨h0, h1, h2⟩ := hc _ q hq
        have hle := less_eq q.k e.k
        clear hc h1 h2
        have HQ := Lib.hid hq
        clear hq
        cases hlk : ltB q.k e.k with
        | true =>
          have HN := Lib.hid (posN_next hj HQ.out hlk)
          rw [hlk] at hle
          go_wp2
          go_quiet (fail)
          have HT2 := Lib.hid (HT.out.trans (stay_drewN (X := fun _ => False) wr nq))
          clear b0 h0
          go_wp2
          refine ⟨⟨j + 1, by go_num, HN.out, HT2.out⟩, by simp [intOf]; omega⟩
        | false =>
          have HP := Lib.hid (posN_stop hj HQ.out hlk)
          rw [hlk] at hle
          have hjl : j ≤ L.length := by omega
          go_wp2
          go_quiet (fail)
          have HS2 := Lib.hid (stay_drewN (X := fun _ => False) wr nq)
          generalize wr.drewN nq = w2 at *
          clear b0 h0 hle hj hple
          have HXW := Lib.hid (HXR.out.stay0 HS2.out)
          have HBW := Lib.hid (HBR.out.stay0 HS2.out)
          have HTW := Lib.hid (HST.out.trans (HT.out.trans HS2.out))
          have HLW := Lib.hid (show w.heap.size + 1 ≤ w2.heap.size by have h1 := (HT.out.trans HS2.out).size; have h2 := HSZ.out; omega)
          clear HXR HBR HS2
          go_wp2
          refine wp_region_held (S := Stay (fun _ => False) w2.drew) (by kernel_rfl) ?_
          change wpAnyH _ _ _ _ _ _ _ _ (World.drew _)
          refine wpAnyH_takeL (i := 0) (v := .slice none 0 0) #[true, false, false, false, false, false, false, false, false] rfl (by kernel_rfl) (by kernel_rfl) (by kernel_rfl) (fun _ _ _ h => h) (by kernel_rfl) (Stay.refl _ _) (Or.inl ⟨by rfl, fun W hW => ?_⟩) ?_
          · go_simp
          conv => arg 8; simp [Act.put]
          refine wpAnyH_takeL (i := 1) (v := .slice (some ⟨g, o, none⟩) L.length c) #[true, true, false, false, false, false, false, false, false] rfl (by kernel_rfl) (by kernel_rfl) (by kernel_rfl) (fun _ _ _ h => h) (by kernel_rfl) (Stay.refl _ _) (Or.inl ⟨by rfl, fun W hW => ?_⟩) ?_
          · go_simp
          conv => arg 8; simp [Act.put]
          refine wpAnyH_takeL (i := 2) (v := .int .i64 (j : Int)) #[true, true, true, false, false, false, false, false, false] rfl (by kernel_rfl) (by kernel_rfl) (by kernel_rfl) (fun _ _ _ h => h) (by kernel_rfl) (Stay.refl _ _) (Or.inl ⟨by rfl, fun W hW => ?_⟩) ?_
          · go_simp
          conv => arg 8; simp [Act.put]
          refine wpAnyH_takeL (i := 3) (v := .slice (some ⟨g, o, none⟩) j c) #[true, true, true, true, false, false, false, false, false] rfl (by kernel_rfl) (by kernel_rfl) (by kernel_rfl) (fun _ _ _ h => h) (by kernel_rfl) (Stay.refl _ _) (Or.inl ⟨by rfl, fun W hW => ?_⟩) ?_
          · (go_simp; try (intro hcj; exfalso; omega))
          conv => arg 8; simp [Act.put]
          refine wpAnyH_takeL (i := 5) #[true, true, true, true, false, true, false, false, false] rfl (by kernel_rfl) (by kernel_rfl) (by kernel_rfl) (fun _ _ _ h => h) (by kernel_rfl) (Stay.refl _ _) (yieldsIf_load rfl 27 (.tmp 3) rfl ⟨w.heap.size, 0, none⟩ rfl _ (fun W hW => ((show Box w2.drew w.heap.size (norm e) from HBW.out).stay0 hW).run_load)) ?_
          conv => arg 8; simp [Act.put]
          refine wpAnyH_ready (rs := [4, 6]) (by kernel_rfl) (by simp) ?_
          refine AllReadyH.cons (o := _) rfl (fun K hK => ?_) ?_
          · refine step_append_en rfl (.tmp 26) (.tmp 29) 22 rfl Tryz.underlying22 rfl rfl (EnO.nil w2.heap.size w2.drew) ((show EnS w2.drew (.slice (some ⟨g, o, none⟩) L.length c) L from HXW.out).first hjl) (by rw [List.length_nil, List.length_take]; have := HL.out; omega) (by exact Nat.le_refl _) ?_
            intro v1 z1 ho1 hs1 hb1
            have hs1' : Stay (fun _ => False) w2.drew z1 := hs1.mono (fun k hk => by cases hk)
            have HS1 := Lib.hid hs1'
            refine Shut.out hK _ _ HS1.out (fun _ => ?_)
            have HO1 := Lib.hid (show EnO w2.heap.size z1 v1 (L.take j) from ho1)
            clear ho1 hs1 hs1' hb1 hK
            refine wpAnyH_listedL #[true, true, true, true, true, true, false, false, false] (by kernel_rfl) ?_
            conv => arg 8; simp [Act.put]
            refine wpAnyH_one #[true, true, true, true, true, true, true, false, false] (i := 6) rfl (by kernel_rfl) (by kernel_rfl) (fun K hK => ?_)
            refine step_one_en rfl (.tmp 31) rfl (norm e) rfl ?_
            have hbn := Box.new z1 (norm e)
            have hsn : Stay (fun _ => False) z1 (z1.alloc (.cells (enC (norm e)).toArray 27)) := Stay.alloc _ _
            obtain ⟨za, hza⟩ : ∃ za, z1.alloc (.cells (enC (norm e)).toArray 27) = za := ⟨_, rfl⟩
            rw [hza] at hbn hsn ⊢
            have HSA := Lib.hid (HS1.out.trans hsn)
            have HO2 := Lib.hid (HO1.out.stay0 hsn)
            refine hK _ _ HSA.out ?_
            have HBN := Lib.hid hbn
            clear hbn hsn hza hK
            conv => arg 8; simp [Act.put]
            refine wpAnyH_one #[true, true, true, true, true, true, true, true, false] (i := 7) rfl (by kernel_rfl) (by kernel_rfl) (fun K hK => ?_)
            refine step_append_en rfl (.tmp 30) (.tmp 32) 22 rfl Tryz.underlying22 rfl rfl HO2.out (HBN.out.one 1 (by decide) (by decide)) (by rw [List.length_take, List.length_singleton]; have := HL.out; omega) (by exact HSA.out.size) ?_
            intro v2 z3 ho3 hs3 hb3
            have HS3 := Lib.hid (stay_seal (((HSA.out).mono (Y := fun k => v1.ownBlock = some k) (fun _ x => x.elim)).trans hs3) (fun k hk => ((HO2.out).lt k hk).1))
            have HO3 := Lib.hid ho3
            refine hK _ _ HS3.out ?_
            clear ho3 hs3 hb3 hK
            conv => arg 8; simp [Act.put]
            refine wpAnyH_takeL (i := 8) (v := v2) #[true, true, true, true, true, true, true, true, true] rfl (by kernel_rfl) (by kernel_rfl) (by kernel_rfl) (fun _ _ _ h => h) (by kernel_rfl) HS3.out (Or.inl ⟨by rfl, fun W hW => ?_⟩) ?_
            · go_simp
            conv => arg 8; simp [Act.put]
            refine wpAnyH_done (by kernel_rfl) ?_ _
            go_wp2
            have HTZ := Lib.hid (HTW.out.trans (Stay.drew.trans HS3.out))
            have HXZ := Lib.hid ((show EnS w2.drew _ L from HXW.out).stay0 HS3.out)
            have HBZ := Lib.hid ((show Box w2.drew w.heap.size (norm e) from HBW.out).stay0 HS3.out)
            have HSW := Lib.hid (HTW.out.size)
            have b0 := HBZ.out.c (j := 0) rfl
            rw [norm_k] at b0
            obtain ⟨g9, o9, e9, _, hc9⟩ := HXZ.out.at (by omega)
            cases e9
            obtain ⟨h0, _, _⟩ := hc9 _ q HQ.out
            clear hc9
            by_cases hk : q.k = e.k
            · have HPT := Lib.hid (show putL L e = (L.take j ++ [norm e]) ++ L.drop (j + 1) by unfold putL; rw [show hasB L e.k = true by unfold hasB; rw [HP.out, HQ.out]; simpa using hk, HP.out]; simp)
              rw [hk] at h0
              go_quiet (fail)
              have HS4 := Lib.hid (stay_drewN (X := fun _ => False) z3 nq)
              generalize z3.drewN nq = z4 at *
              have HO4 := Lib.hid (HO3.out.stay0 HS4.out)
              have HX4 := Lib.hid (HXZ.out.stay0 HS4.out)
              have HT4 := Lib.hid (HTZ.out.trans HS4.out)
              have HW4 := Lib.hid (show w2.heap.size ≤ z4.heap.size from Nat.le_trans (show w2.heap.size ≤ z3.heap.size from HS3.out.size) HS4.out.size)
              clear h0 b0
              by_cases hcm1 : c = j + 1
              · subst hcm1
                have HCUT := Lib.hid (show EnS z4 (.slice (some ⟨g, o, none⟩) 0 0) (L.drop (j + 1)) by rw [List.drop_eq_nil_of_le (by omega)]; exact EnS.empty _ _)
                go_wp2_with (at_builtin; refine wpList_append_en rfl (.tmp 50) (.tmp 53) 22 rfl Tryz.underlying22 rfl rfl HO4.out HCUT.out (by rw [List.length_append, List.length_take, List.length_singleton, List.length_drop]; have := HL.out; omega) HW4.out ?_; intro v5 w5 ho5 hs5 hb5; have HO5 := Lib.hid ho5; have HS5 := Lib.hid hs5; clear ho5 hs5 hb5)
                go_ret
                exact ⟨_, rfl, by rw [HPT.out]; exact HO5.out.rebase (fun k hk => by have h1 := (HO5.out.lt k hk).1; have h2 := HSW.out; omega), stay_seal ((HT4.out.mono (Y := fun k => v2.ownBlock = some k) (fun _ x => x.elim)).trans HS5.out) (fun k hk => by have h1 := (HO4.out.lt k hk).1; have h2 := HSW.out; omega)⟩
              · have HCUT := Lib.hid (HX4.out.cut_some (m := j + 1) (by omega) hcm1)
                go_wp2_with (at_builtin; refine wpList_append_en rfl (.tmp 50) (.tmp 53) 22 rfl Tryz.underlying22 rfl rfl HO4.out HCUT.out (by rw [List.length_append, List.length_take, List.length_singleton, List.length_drop]; have := HL.out; omega) HW4.out ?_; intro v5 w5 ho5 hs5 hb5; have HO5 := Lib.hid ho5; have HS5 := Lib.hid hs5; clear ho5 hs5 hb5)
                go_ret
                exact ⟨_, rfl, by rw [HPT.out]; exact HO5.out.rebase (fun k hk => by have h1 := (HO5.out.lt k hk).1; have h2 := HSW.out; omega), stay_seal ((HT4.out.mono (Y := fun k => v2.ownBlock = some k) (fun _ x => x.elim)).trans HS5.out) (fun k hk => by have h1 := (HO4.out.lt k hk).1; have h2 := HSW.out; omega)⟩
            · have HPT := Lib.hid (show putL L e = (L.take j ++ [norm e]) ++ L.drop j by unfold putL; rw [show hasB L e.k = false by unfold hasB; rw [HP.out, HQ.out]; simpa using hk, HP.out]; simp)
              have hkb : (q.k == e.k) = false := by simpa using hk
              go_quiet (fail)
              have HS4 := Lib.hid (stay_drewN (X := fun _ => False) z3 nq)
              generalize z3.drewN nq = z4 at *
              have HO4 := Lib.hid (HO3.out.stay0 HS4.out)
              have HX4 := Lib.hid (HXZ.out.stay0 HS4.out)
              have HT4 := Lib.hid (HTZ.out.trans HS4.out)
              have HW4 := Lib.hid (show w2.heap.size ≤ z4.heap.size from Nat.le_trans (show w2.heap.size ≤ z3.heap.size from HS3.out.size) HS4.out.size)
              clear h0 b0
              have hcj : ¬ c = j := by omega
              have HCUT := Lib.hid (HX4.out.cut_some (m := j) (by omega) hcj)
              go_wp2_with (at_builtin; refine wpList_append_en rfl (.tmp 50) (.tmp 53) 22 rfl Tryz.underlying22 rfl rfl HO4.out HCUT.out (by rw [List.length_append, List.length_take, List.length_singleton, List.length_drop]; have := HL.out; omega) HW4.out ?_; intro v5 w5 ho5 hs5 hb5; have HO5 := Lib.hid ho5; have HS5 := Lib.hid hs5; clear ho5 hs5 hb5)
              go_ret
              exact ⟨_, rfl, by rw [HPT.out]; exact HO5.out.rebase (fun k hk => by have h1 := (HO5.out.lt k hk).1; have h2 := HSW.out; omega), stay_seal ((HT4.out.mono (Y := fun k => v2.ownBlock = some k) (fun _ x => x.elim)).trans HS5.out) (fun k hk => by have h1 := (HO4.out.lt k hk).1; have h2 := HSW.out; omega)⟩
          refine AllReadyH.cons (o := _) rfl (fun K hK => ?_) ?_
          · refine step_one_en rfl (.tmp 31) rfl (norm e) rfl ?_
            have hbn := Box.new w2.drew (norm e)
            have hsn : Stay (fun _ => False) w2.drew (w2.drew.alloc (.cells (enC (norm e)).toArray 27)) := Stay.alloc _ _
            obtain ⟨za, hza⟩ : ∃ za, w2.drew.alloc (.cells (enC (norm e)).toArray 27) = za := ⟨_, rfl⟩
            rw [hza] at hbn hsn ⊢
            have HSA := Lib.hid hsn
            refine Shut.out hK _ _ HSA.out (fun _ => ?_)
            have HXA := Lib.hid ((show EnS w2.drew _ L from HXW.out).stay0 hsn)
            have HZA := Lib.hid (show w2.heap.size ≤ za.heap.size from hsn.size)
            have HBN := Lib.hid hbn
            clear hbn hsn hza hK
            refine wpAnyH_listedL #[true, true, true, true, false, true, true, false, false] (by kernel_rfl) ?_
            conv => arg 8; simp [Act.put]
            refine wpAnyH_one #[true, true, true, true, true, true, true, false, false] (i := 4) rfl (by kernel_rfl) (by kernel_rfl) (fun K hK => ?_)
            refine step_append_en rfl (.tmp 26) (.tmp 29) 22 rfl Tryz.underlying22 rfl rfl (EnO.nil w2.heap.size za) ((show EnS za (.slice (some ⟨g, o, none⟩) L.length c) L from HXA.out).first hjl) (by rw [List.length_nil, List.length_take]; have := HL.out; omega) (by have := HZA.out; omega) ?_
            intro v1 z1 ho1 hs1 hb1
            have hs1' : Stay (fun _ => False) za z1 := hs1.mono (fun k hk => by cases hk)
            have HS1 := Lib.hid (HSA.out.trans hs1')
            have HSL := Lib.hid hs1'
            refine hK _ _ HS1.out ?_
            have HO1 := Lib.hid (show EnO w2.heap.size z1 v1 (L.take j) from ho1)
            clear ho1 hs1 hs1' hb1 hK
            conv => arg 8; simp [Act.put]
            refine wpAnyH_one #[true, true, true, true, true, true, true, true, false] (i := 7) rfl (by kernel_rfl) (by kernel_rfl) (fun K hK => ?_)
            refine step_append_en rfl (.tmp 30) (.tmp 32) 22 rfl Tryz.underlying22 rfl rfl HO1.out ((HBN.out.stay0 HSL.out).one 1 (by decide) (by decide)) (by rw [List.length_take, List.length_singleton]; have := HL.out; omega) (by exact HS1.out.size) ?_
            intro v2 z3 ho3 hs3 hb3
            have HS3 := Lib.hid (stay_seal (((HS1.out).mono (Y := fun k => v1.ownBlock = some k) (fun _ x => x.elim)).trans hs3) (fun k hk => ((HO1.out).lt k hk).1))
            have HO3 := Lib.hid ho3
            refine hK _ _ HS3.out ?_
            clear ho3 hs3 hb3 hK
            conv => arg 8; simp [Act.put]
            refine wpAnyH_takeL (i := 8) (v := v2) #[true, true, true, true, true, true, true, true, true] rfl (by kernel_rfl) (by kernel_rfl) (by kernel_rfl) (fun _ _ _ h => h) (by kernel_rfl) HS3.out (Or.inl ⟨by rfl, fun W hW => ?_⟩) ?_
            · go_simp
            conv => arg 8; simp [Act.put]
            refine wpAnyH_done (by kernel_rfl) ?_ _
            go_wp2
            have HTZ := Lib.hid (HTW.out.trans (Stay.drew.trans HS3.out))
            have HXZ := Lib.hid ((show EnS w2.drew _ L from HXW.out).stay0 HS3.out)
            have HBZ := Lib.hid ((show Box w2.drew w.heap.size (norm e) from HBW.out).stay0 HS3.out)
            have HSW := Lib.hid (HTW.out.size)
            have b0 := HBZ.out.c (j := 0) rfl
            rw [norm_k] at b0
            obtain ⟨g9, o9, e9, _, hc9⟩ := HXZ.out.at (by omega)
            cases e9
            obtain ⟨h0, _, _⟩ := hc9 _ q HQ.out
            clear hc9
            by_cases hk : q.k = e.k
            · have HPT := Lib.hid (show putL L e = (L.take j ++ [norm e]) ++ L.drop (j + 1) by unfold putL; rw [show hasB L e.k = true by unfold hasB; rw [HP.out, HQ.out]; simpa using hk, HP.out]; simp)
              rw [hk] at h0
              go_quiet (fail)
              have HS4 := Lib.hid (stay_drewN (X := fun _ => False) z3 nq)
              generalize z3.drewN nq = z4 at *
              have HO4 := Lib.hid (HO3.out.stay0 HS4.out)
              have HX4 := Lib.hid (HXZ.out.stay0 HS4.out)
              have HT4 := Lib.hid (HTZ.out.trans HS4.out)
              have HW4 := Lib.hid (show w2.heap.size ≤ z4.heap.size from Nat.le_trans (show w2.heap.size ≤ z3.heap.size from HS3.out.size) HS4.out.size)
              clear h0 b0
              by_cases hcm1 : c = j + 1
              · subst hcm1
                have HCUT := Lib.hid (show EnS z4 (.slice (some ⟨g, o, none⟩) 0 0) (L.drop (j + 1)) by rw [List.drop_eq_nil_of_le (by omega)]; exact EnS.empty _ _)
                go_wp2_with (at_builtin; refine wpList_append_en rfl (.tmp 50) (.tmp 53) 22 rfl Tryz.underlying22 rfl rfl HO4.out HCUT.out (by rw [List.length_append, List.length_take, List.length_singleton, List.length_drop]; have := HL.out; omega) HW4.out ?_; intro v5 w5 ho5 hs5 hb5; have HO5 := Lib.hid ho5; have HS5 := Lib.hid hs5; clear ho5 hs5 hb5)
                go_ret
                exact ⟨_, rfl, by rw [HPT.out]; exact HO5.out.rebase (fun k hk => by have h1 := (HO5.out.lt k hk).1; have h2 := HSW.out; omega), stay_seal ((HT4.out.mono (Y := fun k => v2.ownBlock = some k) (fun _ x => x.elim)).trans HS5.out) (fun k hk => by have h1 := (HO4.out.lt k hk).1; have h2 := HSW.out; omega)⟩
              · have HCUT := Lib.hid (HX4.out.cut_some (m := j + 1) (by omega) hcm1)
                go_wp2_with (at_builtin; refine wpList_append_en rfl (.tmp 50) (.tmp 53) 22 rfl Tryz.underlying22 rfl rfl HO4.out HCUT.out (by rw [List.length_append, List.length_take, List.length_singleton, List.length_drop]; have := HL.out; omega) HW4.out ?_; intro v5 w5 ho5 hs5 hb5; have HO5 := Lib.hid ho5; have HS5 := Lib.hid hs5; clear ho5 hs5 hb5)
                go_ret
                exact ⟨_, rfl, by rw [HPT.out]; exact HO5.out.rebase (fun k hk => by have h1 := (HO5.out.lt k hk).1; have h2 := HSW.out; omega), stay_seal ((HT4.out.mono (Y := fun k => v2.ownBlock = some k) (fun _ x => x.elim)).trans HS5.out) (fun k hk => by have h1 := (HO4.out.lt k hk).1; have h2 := HSW.out; omega)⟩
            · have HPT := Lib.hid (show putL L e = (L.take j ++ [norm e]) ++ L.drop j by unfold putL; rw [show hasB L e.k = false by unfold hasB; rw [HP.out, HQ.out]; simpa using hk, HP.out]; simp)
              have hkb : (q.k == e.k) = false := by simpa using hk
              go_quiet (fail)
              have HS4 := Lib.hid (stay_drewN (X := fun _ => False) z3 nq)
              generalize z3.drewN nq = z4 at *
              have HO4 := Lib.hid (HO3.out.stay0 HS4.out)
              have HX4 := Lib.hid (HXZ.out.stay0 HS4.out)
              have HT4 := Lib.hid (HTZ.out.trans HS4.out)
              have HW4 := Lib.hid (show w2.heap.size ≤ z4.heap.size from Nat.le_trans (show w2.heap.size ≤ z3.heap.size from HS3.out.size) HS4.out.size)
              clear h0 b0
              have hcj : ¬ c = j := by omega
              have HCUT := Lib.hid (HX4.out.cut_some (m := j) (by omega) hcj)
              go_wp2_with (at_builtin; refine wpList_append_en rfl (.tmp 50) (.tmp 53) 22 rfl Tryz.underlying22 rfl rfl HO4.out HCUT.out (by rw [List.length_append, List.length_take, List.length_singleton, List.length_drop]; have := HL.out; omega) HW4.out ?_; intro v5 w5 ho5 hs5 hb5; have HO5 := Lib.hid ho5; have HS5 := Lib.hid hs5; clear ho5 hs5 hb5)
              go_ret
              exact ⟨_, rfl, by rw [HPT.out]; exact HO5.out.rebase (fun k hk => by have h1 := (HO5.out.lt k hk).1; have h2 := HSW.out; omega), stay_seal ((HT4.out.mono (Y := fun k => v2.ownBlock = some k) (fun _ x => x.elim)).trans HS5.out) (fun k hk => by have h1 := (HO4.out.lt k hk).1; have h2 := HSW.out; omega)⟩
          exact AllReadyH.nil
      · obtain rfl : j = L.length := by omega
        have HP := Lib.hid (show posN L e.k = L.length by omega)
        clear hj hple
        cases a0 with
        | none =>
          obtain rfl := HNIL.out rfl
          have hL0 : L.length = 0 := by omega
          have hLn : L = [] := List.eq_nil_of_length_eq_zero hL0
          have hjl : 0 ≤ L.length := Nat.zero_le _
          rw [hL0] at HP ⊢
          go_wp2
          go_quiet (fail)
          have HS2 := Lib.hid (stay_drewN (X := fun _ => False) wr nq)
          generalize wr.drewN nq = w2 at *
          clear b0
          have HXW := Lib.hid (HXR.out.stay0 HS2.out)
          have HBW := Lib.hid (HBR.out.stay0 HS2.out)
          have HTW := Lib.hid (HST.out.trans (HT.out.trans HS2.out))
          have HLW := Lib.hid (show w.heap.size + 1 ≤ w2.heap.size by have h1 := (HT.out.trans HS2.out).size; have h2 := HSZ.out; omega)
          clear HXR HBR HS2
          go_wp2
          refine wp_region_held (S := Stay (fun _ => False) w2.drew) (by kernel_rfl) ?_
          change wpAnyH _ _ _ _ _ _ _ _ (World.drew _)
          refine wpAnyH_takeL (i := 0) (v := .slice none 0 0) #[true, false, false, false, false, false, false, false, false] rfl (by kernel_rfl) (by kernel_rfl) (by kernel_rfl) (fun _ _ _ h => h) (by kernel_rfl) (Stay.refl _ _) (Or.inl ⟨by rfl, fun W hW => ?_⟩) ?_
          · go_simp
          conv => arg 8; simp [Act.put]
          refine wpAnyH_takeL (i := 1) (v := .slice none 0 0) #[true, true, false, false, false, false, false, false, false] rfl (by kernel_rfl) (by kernel_rfl) (by kernel_rfl) (fun _ _ _ h => h) (by kernel_rfl) (Stay.refl _ _) (Or.inl ⟨by rfl, fun W hW => ?_⟩) ?_
          · go_simp
          conv => arg 8; simp [Act.put]
          refine wpAnyH_takeL (i := 2) (v := .int .i64 0) #[true, true, true, false, false, false, false, false, false] rfl (by kernel_rfl) (by kernel_rfl) (by kernel_rfl) (fun _ _ _ h => h) (by kernel_rfl) (Stay.refl _ _) (Or.inl ⟨by rfl, fun W hW => ?_⟩) ?_
          · go_simp
          conv => arg 8; simp [Act.put]
          refine wpAnyH_takeL (i := 3) (v := .slice none 0 0) #[true, true, true, true, false, false, false, false, false] rfl (by kernel_rfl) (by kernel_rfl) (by kernel_rfl) (fun _ _ _ h => h) (by kernel_rfl) (Stay.refl _ _) (Or.inl ⟨by rfl, fun W hW => ?_⟩) ?_
          · (go_simp; try (intro hcj; exfalso; omega))
          conv => arg 8; simp [Act.put]
          refine wpAnyH_takeL (i := 5) #[true, true, true, true, false, true, false, false, false] rfl (by kernel_rfl) (by kernel_rfl) (by kernel_rfl) (fun _ _ _ h => h) (by kernel_rfl) (Stay.refl _ _) (yieldsIf_load rfl 27 (.tmp 3) rfl ⟨w.heap.size, 0, none⟩ rfl _ (fun W hW => ((show Box w2.drew w.heap.size (norm e) from HBW.out).stay0 hW).run_load)) ?_
          conv => arg 8; simp [Act.put]
          refine wpAnyH_ready (rs := [4, 6]) (by kernel_rfl) (by simp) ?_
          refine AllReadyH.cons (o := _) rfl (fun K hK => ?_) ?_
          · refine step_append_en rfl (.tmp 26) (.tmp 29) 22 rfl Tryz.underlying22 rfl rfl (EnO.nil w2.heap.size w2.drew) ((show EnS w2.drew (.slice none L.length 0) L from HXW.out).first hjl) (by rw [List.length_nil, List.length_take]; have := HL.out; omega) (by exact Nat.le_refl _) ?_
            intro v1 z1 ho1 hs1 hb1
            have hs1' : Stay (fun _ => False) w2.drew z1 := hs1.mono (fun k hk => by cases hk)
            have HS1 := Lib.hid hs1'
            refine Shut.out hK _ _ HS1.out (fun _ => ?_)
            have HO1 := Lib.hid (show EnO w2.heap.size z1 v1 (L.take 0) from ho1)
            clear ho1 hs1 hs1' hb1 hK
            refine wpAnyH_listedL #[true, true, true, true, true, true, false, false, false] (by kernel_rfl) ?_
            conv => arg 8; simp [Act.put]
            refine wpAnyH_one #[true, true, true, true, true, true, true, false, false] (i := 6) rfl (by kernel_rfl) (by kernel_rfl) (fun K hK => ?_)
            refine step_one_en rfl (.tmp 31) rfl (norm e) rfl ?_
            have hbn := Box.new z1 (norm e)
            have hsn : Stay (fun _ => False) z1 (z1.alloc (.cells (enC (norm e)).toArray 27)) := Stay.alloc _ _
            obtain ⟨za, hza⟩ : ∃ za, z1.alloc (.cells (enC (norm e)).toArray 27) = za := ⟨_, rfl⟩
            rw [hza] at hbn hsn ⊢
            have HSA := Lib.hid (HS1.out.trans hsn)
            have HO2 := Lib.hid (HO1.out.stay0 hsn)
            refine hK _ _ HSA.out ?_
            have HBN := Lib.hid hbn
            clear hbn hsn hza hK
            conv => arg 8; simp [Act.put]
            refine wpAnyH_one #[true, true, true, true, true, true, true, true, false] (i := 7) rfl (by kernel_rfl) (by kernel_rfl) (fun K hK => ?_)
            refine step_append_en rfl (.tmp 30) (.tmp 32) 22 rfl Tryz.underlying22 rfl rfl HO2.out (HBN.out.one 1 (by decide) (by decide)) (by rw [List.length_take, List.length_singleton]; have := HL.out; omega) (by exact HSA.out.size) ?_
            intro v2 z3 ho3 hs3 hb3
            have HS3 := Lib.hid (stay_seal (((HSA.out).mono (Y := fun k => v1.ownBlock = some k) (fun _ x => x.elim)).trans hs3) (fun k hk => ((HO2.out).lt k hk).1))
            have HO3 := Lib.hid ho3
            refine hK _ _ HS3.out ?_
            clear ho3 hs3 hb3 hK
            conv => arg 8; simp [Act.put]
            refine wpAnyH_takeL (i := 8) (v := v2) #[true, true, true, true, true, true, true, true, true] rfl (by kernel_rfl) (by kernel_rfl) (by kernel_rfl) (fun _ _ _ h => h) (by kernel_rfl) HS3.out (Or.inl ⟨by rfl, fun W hW => ?_⟩) ?_
            · go_simp
            conv => arg 8; simp [Act.put]
            refine wpAnyH_done (by kernel_rfl) ?_ _
            go_wp2
            have HTZ := Lib.hid (HTW.out.trans (Stay.drew.trans HS3.out))
            have HXZ := Lib.hid ((show EnS w2.drew _ L from HXW.out).stay0 HS3.out)
            have HBZ := Lib.hid ((show Box w2.drew w.heap.size (norm e) from HBW.out).stay0 HS3.out)
            have HSW := Lib.hid (HTW.out.size)
            have b0 := HBZ.out.c (j := 0) rfl
            rw [norm_k] at b0
            have HPT := Lib.hid (show putL L e = (L.take 0 ++ [norm e]) ++ [] by unfold putL; rw [show hasB L e.k = false by unfold hasB; rw [HP.out, List.getElem?_eq_none (by omega)], HP.out]; simp [hLn])
            go_quiet (fail)
            have HS4 := Lib.hid (stay_drewN (X := fun _ => False) z3 nq)
            generalize z3.drewN nq = z4 at *
            have HO4 := Lib.hid (HO3.out.stay0 HS4.out)
            have HT4 := Lib.hid (HTZ.out.trans HS4.out)
            have HW4 := Lib.hid (show w2.heap.size ≤ z4.heap.size from Nat.le_trans (show w2.heap.size ≤ z3.heap.size from HS3.out.size) HS4.out.size)
            clear b0
            have HCUT := Lib.hid (EnS.nil z4)
            go_wp2_with (at_builtin; refine wpList_append_en rfl (.tmp 50) (.tmp 53) 22 rfl Tryz.underlying22 rfl rfl HO4.out HCUT.out (by rw [List.length_append, List.length_take, List.length_singleton, List.length_nil]; have := HL.out; omega) HW4.out ?_; intro v5 w5 ho5 hs5 hb5; have HO5 := Lib.hid ho5; have HS5 := Lib.hid hs5; clear ho5 hs5 hb5)
            go_ret
            exact ⟨_, rfl, by rw [HPT.out]; exact HO5.out.rebase (fun k hk => by have h1 := (HO5.out.lt k hk).1; have h2 := HSW.out; omega), stay_seal ((HT4.out.mono (Y := fun k => v2.ownBlock = some k) (fun _ x => x.elim)).trans HS5.out) (fun k hk => by have h1 := (HO4.out.lt k hk).1; have h2 := HSW.out; omega)⟩
          refine AllReadyH.cons (o := _) rfl (fun K hK => ?_) ?_
          · refine step_one_en rfl (.tmp 31) rfl (norm e) rfl ?_
            have hbn := Box.new w2.drew (norm e)
            have hsn : Stay (fun _ => False) w2.drew (w2.drew.alloc (.cells (enC (norm e)).toArray 27)) := Stay.alloc _ _
            obtain ⟨za, hza⟩ : ∃ za, w2.drew.alloc (.cells (enC (norm e)).toArray 27) = za := ⟨_, rfl⟩
            rw [hza] at hbn hsn ⊢
            have HSA := Lib.hid hsn
            refine Shut.out hK _ _ HSA.out (fun _ => ?_)
            have HXA := Lib.hid ((show EnS w2.drew _ L from HXW.out).stay0 hsn)
            have HZA := Lib.hid (show w2.heap.size ≤ za.heap.size from hsn.size)
            have HBN := Lib.hid hbn
            clear hbn hsn hza hK
            refine wpAnyH_listedL #[true, true, true, true, false, true, true, false, false] (by kernel_rfl) ?_
            conv => arg 8; simp [Act.put]
            refine wpAnyH_one #[true, true, true, true, true, true, true, false, false] (i := 4) rfl (by kernel_rfl) (by kernel_rfl) (fun K hK => ?_)
            refine step_append_en rfl (.tmp 26) (.tmp 29) 22 rfl Tryz.underlying22 rfl rfl (EnO.nil w2.heap.size za) ((show EnS za (.slice none L.length 0) L from HXA.out).first hjl) (by rw [List.length_nil, List.length_take]; have := HL.out; omega) (by have := HZA.out; omega) ?_
            intro v1 z1 ho1 hs1 hb1
            have hs1' : Stay (fun _ => False) za z1 := hs1.mono (fun k hk => by cases hk)
            have HS1 := Lib.hid (HSA.out.trans hs1')
            have HSL := Lib.hid hs1'
            refine hK _ _ HS1.out ?_
            have HO1 := Lib.hid (show EnO w2.heap.size z1 v1 (L.take 0) from ho1)
            clear ho1 hs1 hs1' hb1 hK
            conv => arg 8; simp [Act.put]
            refine wpAnyH_one #[true, true, true, true, true, true, true, true, false] (i := 7) rfl (by kernel_rfl) (by kernel_rfl) (fun K hK => ?_)
            refine step_append_en rfl (.tmp 30) (.tmp 32) 22 rfl Tryz.underlying22 rfl rfl HO1.out ((HBN.out.stay0 HSL.out).one 1 (by decide) (by decide)) (by rw [List.length_take, List.length_singleton]; have := HL.out; omega) (by exact HS1.out.size) ?_
            intro v2 z3 ho3 hs3 hb3
            have HS3 := Lib.hid (stay_seal (((HS1.out).mono (Y := fun k => v1.ownBlock = some k) (fun _ x => x.elim)).trans hs3) (fun k hk => ((HO1.out).lt k hk).1))
            have HO3 := Lib.hid ho3
            refine hK _ _ HS3.out ?_
            clear ho3 hs3 hb3 hK
            conv => arg 8; simp [Act.put]
            refine wpAnyH_takeL (i := 8) (v := v2) #[true, true, true, true, true, true, true, true, true] rfl (by kernel_rfl) (by kernel_rfl) (by kernel_rfl) (fun _ _ _ h => h) (by kernel_rfl) HS3.out (Or.inl ⟨by rfl, fun W hW => ?_⟩) ?_
            · go_simp
            conv => arg 8; simp [Act.put]
            refine wpAnyH_done (by kernel_rfl) ?_ _
            go_wp2
            have HTZ := Lib.hid (HTW.out.trans (Stay.drew.trans HS3.out))
            have HXZ := Lib.hid ((show EnS w2.drew _ L from HXW.out).stay0 HS3.out)
            have HBZ := Lib.hid ((show Box w2.drew w.heap.size (norm e) from HBW.out).stay0 HS3.out)
            have HSW := Lib.hid (HTW.out.size)
            have b0 := HBZ.out.c (j := 0) rfl
            rw [norm_k] at b0
            have HPT := Lib.hid (show putL L e = (L.take 0 ++ [norm e]) ++ [] by unfold putL; rw [show hasB L e.k = false by unfold hasB; rw [HP.out, List.getElem?_eq_none (by omega)], HP.out]; simp [hLn])
            go_quiet (fail)
            have HS4 := Lib.hid (stay_drewN (X := fun _ => False) z3 nq)
            generalize z3.drewN nq = z4 at *
            have HO4 := Lib.hid (HO3.out.stay0 HS4.out)
            have HT4 := Lib.hid (HTZ.out.trans HS4.out)
            have HW4 := Lib.hid (show w2.heap.size ≤ z4.heap.size from Nat.le_trans (show w2.heap.size ≤ z3.heap.size from HS3.out.size) HS4.out.size)
            clear b0
            have HCUT := Lib.hid (EnS.nil z4)
            go_wp2_with (at_builtin; refine wpList_append_en rfl (.tmp 50) (.tmp 53) 22 rfl Tryz.underlying22 rfl rfl HO4.out HCUT.out (by rw [List.length_append, List.length_take, List.length_singleton, List.length_nil]; have := HL.out; omega) HW4.out ?_; intro v5 w5 ho5 hs5 hb5; have HO5 := Lib.hid ho5; have HS5 := Lib.hid hs5; clear ho5 hs5 hb5)
            go_ret
            exact ⟨_, rfl, by rw [HPT.out]; exact HO5.out.rebase (fun k hk => by have h1 := (HO5.out.lt k hk).1; have h2 := HSW.out; omega), stay_seal ((HT4.out.mono (Y := fun k => v2.ownBlock = some k) (fun _ x => x.elim)).trans HS5.out) (fun k hk => by have h1 := (HO4.out.lt k hk).1; have h2 := HSW.out; omega)⟩
          exact AllReadyH.nil
        | some ad =>
          have hjl : L.length ≤ L.length := Nat.le_refl _
          go_wp2
          go_quiet (fail)
          have HS2 := Lib.hid (stay_drewN (X := fun _ => False) wr nq)
          generalize wr.drewN nq = w2 at *
          clear b0
          have HXW := Lib.hid (HXR.out.stay0 HS2.out)
          have HBW := Lib.hid (HBR.out.stay0 HS2.out)
          have HTW := Lib.hid (HST.out.trans (HT.out.trans HS2.out))
          have HLW := Lib.hid (show w.heap.size + 1 ≤ w2.heap.size by have h1 := (HT.out.trans HS2.out).size; have h2 := HSZ.out; omega)
          clear HXR HBR HS2
          go_wp2
          refine wp_region_held (S := Stay (fun _ => False) w2.drew) (by kernel_rfl) ?_
          change wpAnyH _ _ _ _ _ _ _ _ (World.drew _)
          refine wpAnyH_takeL (i := 0) (v := .slice none 0 0) #[true, false, false, false, false, false, false, false, false] rfl (by kernel_rfl) (by kernel_rfl) (by kernel_rfl) (fun _ _ _ h => h) (by kernel_rfl) (Stay.refl _ _) (Or.inl ⟨by rfl, fun W hW => ?_⟩) ?_
          · go_simp
          conv => arg 8; simp [Act.put]
          refine wpAnyH_takeL (i := 1) (v := .slice (some ad) L.length c) #[true, true, false, false, false, false, false, false, false] rfl (by kernel_rfl) (by kernel_rfl) (by kernel_rfl) (fun _ _ _ h => h) (by kernel_rfl) (Stay.refl _ _) (Or.inl ⟨by rfl, fun W hW => ?_⟩) ?_
          · go_simp
          conv => arg 8; simp [Act.put]
          refine wpAnyH_takeL (i := 2) (v := .int .i64 (L.length : Int)) #[true, true, true, false, false, false, false, false, false] rfl (by kernel_rfl) (by kernel_rfl) (by kernel_rfl) (fun _ _ _ h => h) (by kernel_rfl) (Stay.refl _ _) (Or.inl ⟨by rfl, fun W hW => ?_⟩) ?_
          · go_simp
          conv => arg 8; simp [Act.put]
          refine wpAnyH_takeL (i := 3) (v := .slice (some ad) L.length c) #[true, true, true, true, false, false, false, false, false] rfl (by kernel_rfl) (by kernel_rfl) (by kernel_rfl) (fun _ _ _ h => h) (by kernel_rfl) (Stay.refl _ _) (Or.inl ⟨by rfl, fun W hW => ?_⟩) ?_
          · (go_simp; try (intro hcj; exfalso; omega))
          conv => arg 8; simp [Act.put]
          refine wpAnyH_takeL (i := 5) #[true, true, true, true, false, true, false, false, false] rfl (by kernel_rfl) (by kernel_rfl) (by kernel_rfl) (fun _ _ _ h => h) (by kernel_rfl) (Stay.refl _ _) (yieldsIf_load rfl 27 (.tmp 3) rfl ⟨w.heap.size, 0, none⟩ rfl _ (fun W hW => ((show Box w2.drew w.heap.size (norm e) from HBW.out).stay0 hW).run_load)) ?_
          conv => arg 8; simp [Act.put]
          refine wpAnyH_ready (rs := [4, 6]) (by kernel_rfl) (by simp) ?_
          refine AllReadyH.cons (o := _) rfl (fun K hK => ?_) ?_
          · refine step_append_en rfl (.tmp 26) (.tmp 29) 22 rfl Tryz.underlying22 rfl rfl (EnO.nil w2.heap.size w2.drew) ((show EnS w2.drew (.slice (some ad) L.length c) L from HXW.out).first hjl) (by rw [List.length_nil, List.length_take]; have := HL.out; omega) (by exact Nat.le_refl _) ?_
            intro v1 z1 ho1 hs1 hb1
            have hs1' : Stay (fun _ => False) w2.drew z1 := hs1.mono (fun k hk => by cases hk)
            have HS1 := Lib.hid hs1'
            refine Shut.out hK _ _ HS1.out (fun _ => ?_)
            have HO1 := Lib.hid (show EnO w2.heap.size z1 v1 (L.take L.length) from ho1)
            clear ho1 hs1 hs1' hb1 hK
            refine wpAnyH_listedL #[true, true, true, true, true, true, false, false, false] (by kernel_rfl) ?_
            conv => arg 8; simp [Act.put]
            refine wpAnyH_one #[true, true, true, true, true, true, true, false, false] (i := 6) rfl (by kernel_rfl) (by kernel_rfl) (fun K hK => ?_)
            refine step_one_en rfl (.tmp 31) rfl (norm e) rfl ?_
            have hbn := Box.new z1 (norm e)
            have hsn : Stay (fun _ => False) z1 (z1.alloc (.cells (enC (norm e)).toArray 27)) := Stay.alloc _ _
            obtain ⟨za, hza⟩ : ∃ za, z1.alloc (.cells (enC (norm e)).toArray 27) = za := ⟨_, rfl⟩
            rw [hza] at hbn hsn ⊢
            have HSA := Lib.hid (HS1.out.trans hsn)
            have HO2 := Lib.hid (HO1.out.stay0 hsn)
            refine hK _ _ HSA.out ?_
            have HBN := Lib.hid hbn
            clear hbn hsn hza hK
            conv => arg 8; simp [Act.put]
            refine wpAnyH_one #[true, true, true, true, true, true, true, true, false] (i := 7) rfl (by kernel_rfl) (by kernel_rfl) (fun K hK => ?_)
            refine step_append_en rfl (.tmp 30) (.tmp 32) 22 rfl Tryz.underlying22 rfl rfl HO2.out (HBN.out.one 1 (by decide) (by decide)) (by rw [List.length_take, List.length_singleton]; have := HL.out; omega) (by exact HSA.out.size) ?_
            intro v2 z3 ho3 hs3 hb3
            have HS3 := Lib.hid (stay_seal (((HSA.out).mono (Y := fun k => v1.ownBlock = some k) (fun _ x => x.elim)).trans hs3) (fun k hk => ((HO2.out).lt k hk).1))
            have HO3 := Lib.hid ho3
            refine hK _ _ HS3.out ?_
            clear ho3 hs3 hb3 hK
            conv => arg 8; simp [Act.put]
            refine wpAnyH_takeL (i := 8) (v := v2) #[true, true, true, true, true, true, true, true, true] rfl (by kernel_rfl) (by kernel_rfl) (by kernel_rfl) (fun _ _ _ h => h) (by kernel_rfl) HS3.out (Or.inl ⟨by rfl, fun W hW => ?_⟩) ?_
            · go_simp
            conv => arg 8; simp [Act.put]
            refine wpAnyH_done (by kernel_rfl) ?_ _
            go_wp2
            have HTZ := Lib.hid (HTW.out.trans (Stay.drew.trans HS3.out))
            have HXZ := Lib.hid ((show EnS w2.drew _ L from HXW.out).stay0 HS3.out)
            have HBZ := Lib.hid ((show Box w2.drew w.heap.size (norm e) from HBW.out).stay0 HS3.out)
            have HSW := Lib.hid (HTW.out.size)
            have b0 := HBZ.out.c (j := 0) rfl
            rw [norm_k] at b0
            have HPT := Lib.hid (show putL L e = (L.take L.length ++ [norm e]) ++ [] by unfold putL; rw [show hasB L e.k = false by unfold hasB; rw [HP.out, List.getElem?_eq_none (by omega)], HP.out]; simp)
            go_quiet (fail)
            have HS4 := Lib.hid (stay_drewN (X := fun _ => False) z3 nq)
            generalize z3.drewN nq = z4 at *
            have HO4 := Lib.hid (HO3.out.stay0 HS4.out)
            have HT4 := Lib.hid (HTZ.out.trans HS4.out)
            have HW4 := Lib.hid (show w2.heap.size ≤ z4.heap.size from Nat.le_trans (show w2.heap.size ≤ z3.heap.size from HS3.out.size) HS4.out.size)
            clear b0
            by_cases hcm1 : c = L.length
            · subst hcm1
              have HCUT := Lib.hid (EnS.empty z4 ad)
              go_wp2_with (at_builtin; refine wpList_append_en rfl (.tmp 50) (.tmp 53) 22 rfl Tryz.underlying22 rfl rfl HO4.out HCUT.out (by rw [List.length_append, List.length_take, List.length_singleton, List.length_nil]; have := HL.out; omega) HW4.out ?_; intro v5 w5 ho5 hs5 hb5; have HO5 := Lib.hid ho5; have HS5 := Lib.hid hs5; clear ho5 hs5 hb5)
              go_ret
              exact ⟨_, rfl, by rw [HPT.out]; exact HO5.out.rebase (fun k hk => by have h1 := (HO5.out.lt k hk).1; have h2 := HSW.out; omega), stay_seal ((HT4.out.mono (Y := fun k => v2.ownBlock = some k) (fun _ x => x.elim)).trans HS5.out) (fun k hk => by have h1 := (HO4.out.lt k hk).1; have h2 := HSW.out; omega)⟩
            · have HCUT := Lib.hid (show EnS z4 (.slice (some (ad.add (L.length * 3))) 0 (c - L.length)) [] from ⟨_, _, rfl, Nat.zero_le _, by omega, (fun h => by cases h), fun h => absurd h (Nat.lt_irrefl 0)⟩)
              go_wp2_with (at_builtin; refine wpList_append_en rfl (.tmp 50) (.tmp 53) 22 rfl Tryz.underlying22 rfl rfl HO4.out HCUT.out (by rw [List.length_append, List.length_take, List.length_singleton, List.length_nil]; have := HL.out; omega) HW4.out ?_; intro v5 w5 ho5 hs5 hb5; have HO5 := Lib.hid ho5; have HS5 := Lib.hid hs5; clear ho5 hs5 hb5)
              go_ret
              exact ⟨_, rfl, by rw [HPT.out]; exact HO5.out.rebase (fun k hk => by have h1 := (HO5.out.lt k hk).1; have h2 := HSW.out; omega), stay_seal ((HT4.out.mono (Y := fun k => v2.ownBlock = some k) (fun _ x => x.elim)).trans HS5.out) (fun k hk => by have h1 := (HO4.out.lt k hk).1; have h2 := HSW.out; omega)⟩
          refine AllReadyH.cons (o := _) rfl (fun K hK => ?_) ?_
          · refine step_one_en rfl (.tmp 31) rfl (norm e) rfl ?_
            have hbn := Box.new w2.drew (norm e)
            have hsn : Stay (fun _ => False) w2.drew (w2.drew.alloc (.cells (enC (norm e)).toArray 27)) := Stay.alloc _ _
            obtain ⟨za, hza⟩ : ∃ za, w2.drew.alloc (.cells (enC (norm e)).toArray 27) = za := ⟨_, rfl⟩
            rw [hza] at hbn hsn ⊢
            have HSA := Lib.hid hsn
            refine Shut.out hK _ _ HSA.out (fun _ => ?_)
            have HXA := Lib.hid ((show EnS w2.drew _ L from HXW.out).stay0 hsn)
            have HZA := Lib.hid (show w2.heap.size ≤ za.heap.size from hsn.size)
            have HBN := Lib.hid hbn
            clear hbn hsn hza hK
            refine wpAnyH_listedL #[true, true, true, true, false, true, true, false, false] (by kernel_rfl) ?_
            conv => arg 8; simp [Act.put]
            refine wpAnyH_one #[true, true, true, true, true, true, true, false, false] (i := 4) rfl (by kernel_rfl) (by kernel_rfl) (fun K hK => ?_)
            refine step_append_en rfl (.tmp 26) (.tmp 29) 22 rfl Tryz.underlying22 rfl rfl (EnO.nil w2.heap.size za) ((show EnS za (.slice (some ad) L.length c) L from HXA.out).first hjl) (by rw [List.length_nil, List.length_take]; have := HL.out; omega) (by have := HZA.out; omega) ?_
            intro v1 z1 ho1 hs1 hb1
            have hs1' : Stay (fun _ => False) za z1 := hs1.mono (fun k hk => by cases hk)
            have HS1 := Lib.hid (HSA.out.trans hs1')
            have HSL := Lib.hid hs1'
            refine hK _ _ HS1.out ?_
            have HO1 := Lib.hid (show EnO w2.heap.size z1 v1 (L.take L.length) from ho1)
            clear ho1 hs1 hs1' hb1 hK
            conv => arg 8; simp [Act.put]
            refine wpAnyH_one #[true, true, true, true, true, true, true, true, false] (i := 7) rfl (by kernel_rfl) (by kernel_rfl) (fun K hK => ?_)
            refine step_append_en rfl (.tmp 30) (.tmp 32) 22 rfl Tryz.underlying22 rfl rfl HO1.out ((HBN.out.stay0 HSL.out).one 1 (by decide) (by decide)) (by rw [List.length_take, List.length_singleton]; have := HL.out; omega) (by exact HS1.out.size) ?_
            intro v2 z3 ho3 hs3 hb3
            have HS3 := Lib.hid (stay_seal (((HS1.out).mono (Y := fun k => v1.ownBlock = some k) (fun _ x => x.elim)).trans hs3) (fun k hk => ((HO1.out).lt k hk).1))
            have HO3 := Lib.hid ho3
            refine hK _ _ HS3.out ?_
            clear ho3 hs3 hb3 hK
            conv => arg 8; simp [Act.put]
            refine wpAnyH_takeL (i := 8) (v := v2) #[true, true, true, true, true, true, true, true, true] rfl (by kernel_rfl) (by kernel_rfl) (by kernel_rfl) (fun _ _ _ h => h) (by kernel_rfl) HS3.out (Or.inl ⟨by rfl, fun W hW => ?_⟩) ?_
            · go_simp
            conv => arg 8; simp [Act.put]
            refine wpAnyH_done (by kernel_rfl) ?_ _
            go_wp2
            have HTZ := Lib.hid (HTW.out.trans (Stay.drew.trans HS3.out))
            have HXZ := Lib.hid ((show EnS w2.drew _ L from HXW.out).stay0 HS3.out)
            have HBZ := Lib.hid ((show Box w2.drew w.heap.size (norm e) from HBW.out).stay0 HS3.out)
            have HSW := Lib.hid (HTW.out.size)
            have b0 := HBZ.out.c (j := 0) rfl
            rw [norm_k] at b0
            have HPT := Lib.hid (show putL L e = (L.take L.length ++ [norm e]) ++ [] by unfold putL; rw [show hasB L e.k = false by unfold hasB; rw [HP.out, List.getElem?_eq_none (by omega)], HP.out]; simp)
            go_quiet (fail)
            have HS4 := Lib.hid (stay_drewN (X := fun _ => False) z3 nq)
            generalize z3.drewN nq = z4 at *
            have HO4 := Lib.hid (HO3.out.stay0 HS4.out)
            have HT4 := Lib.hid (HTZ.out.trans HS4.out)
            have HW4 := Lib.hid (show w2.heap.size ≤ z4.heap.size from Nat.le_trans (show w2.heap.size ≤ z3.heap.size from HS3.out.size) HS4.out.size)
            clear b0
            by_cases hcm1 : c = L.length
            · subst hcm1
              have HCUT := Lib.hid (EnS.empty z4 ad)
              go_wp2_with (at_builtin; refine wpList_append_en rfl (.tmp 50) (.tmp 53) 22 rfl Tryz.underlying22 rfl rfl HO4.out HCUT.out (by rw [List.length_append, List.length_take, List.length_singleton, List.length_nil]; have := HL.out; omega) HW4.out ?_; intro v5 w5 ho5 hs5 hb5; have HO5 := Lib.hid ho5; have HS5 := Lib.hid hs5; clear ho5 hs5 hb5)
              go_ret
              exact ⟨_, rfl, by rw [HPT.out]; exact HO5.out.rebase (fun k hk => by have h1 := (HO5.out.lt k hk).1; have h2 := HSW.out; omega), stay_seal ((HT4.out.mono (Y := fun k => v2.ownBlock = some k) (fun _ x => x.elim)).trans HS5.out) (fun k hk => by have h1 := (HO4.out.lt k hk).1; have h2 := HSW.out; omega)⟩
            · have HCUT := Lib.hid (show EnS z4 (.slice (some (ad.add (L.length * 3))) 0 (c - L.length)) [] from ⟨_, _, rfl, Nat.zero_le _, by omega, (fun h => by cases h), fun h => absurd h (Nat.lt_irrefl 0)⟩)
              go_wp2_with (at_builtin; refine wpList_append_en rfl (.tmp 50) (.tmp 53) 22 rfl Tryz.underlying22 rfl rfl HO4.out HCUT.out (by rw [List.length_append, List.length_take, List.length_singleton, List.length_nil]; have := HL.out; omega) HW4.out ?_; intro v5 w5 ho5 hs5 hb5; have HO5 := Lib.hid ho5; have HS5 := Lib.hid hs5; clear ho5 hs5 hb5)
              go_ret
              exact ⟨_, rfl, by rw [HPT.out]; exact HO5.out.rebase (fun k hk => by have h1 := (HO5.out.lt k hk).1; have h2 := HSW.out; omega), stay_seal ((HT4.out.mono (Y := fun k => v2.ownBlock = some k) (fun _ x => x.elim)).trans HS5.out) (fun k hk => by have h1 := (HO4.out.lt k hk).1; have h2 := HSW.out; omega)⟩
          exact AllReadyH.nil
end Go.Proofs.YtahfgoafiepioaaGreatDoor.Me

/-
  mem: entries held against each other; entries of one's own; the document's Size, Get, Range.
-/
namespace Go.Proofs.YtahfgoafiepioaaGreatDoor.Me
open Go.RowKit Go.Maps
set_option maxRecDepth 100000
set_option linter.unusedVariables false

/-- Whether two entries are one. -/
def eqE (a b : En) : Bool := a.k == b.k && a.v == b.v && a.g == b.g
theorem eqE_is (a b : En) : eqE a b = decide (a = b) := by
  obtain ⟨k, v, g⟩ := a
  obtain ⟨k', v', g'⟩ := b
  unfold eqE
  by_cases h1 : k = k' <;> by_cases h2 : v = v' <;> by_cases h3 : g = g' <;> simp [h1, h2, h3]
theorem eq_en (w : World) (a b : En) : (Op.equalIn 10000 27 (enV a) (enV b)).run Tryz.prog w = .ok (eqE a b) w := by
  have u9 := Tryz.underlying9
  have u4 := Tryz.underlying4
  unfold enV enC eqE
  go_simp
  by_cases h1 : a.k = b.k <;> by_cases h2 : a.v = b.v <;> by_cases h3 : a.g = b.g <;> simp [h1, h2, h3]

theorem eq_guard : Tryz.prog.eqGuardType Tryz.prog.depth 27 = false := by kernel_rfl
/-- A whole struct loaded, as a step of a region in the class D, behind a guard that holds. -/
theorem quiet_loadG {P : Program} {D : World → Prop} {ops : Array Oper} {rest : List Oper} {o : Oper} {a : Act} {Q : Act → Prop} (hgd : Region.wanted o (yielded ops a.tmps) = true) (ty : TypeId) (x : Operand) (ho : o.op = .load ty x) (ad : Addr) (hx : a.eval x = .pointer (some ad)) (v : Value)
    (hl : ∀ i : InC D, (loadVar ty ad).run P i.w = .ok v i.w) (h : wpQuiet P ops (fun w' => ∃ i : InC D, w' = i.w) Q rest (a.put o.dst v)) : wpQuiet P ops (fun w' => ∃ i : InC D, w' = i.w) Q (o :: rest) a := by
  refine wpQuiet_step fun K hK => ?_
  rw [if_pos hgd]
  refine ⟨v, fun w' hw => ?_, hK _ h⟩
  obtain ⟨i, rfl⟩ := hw
  unfold Oper.quietAt execOp
  simp only [ho, hx, Instr.loadAt, Instr.sureAddr, Sem.run_bind, Sem.run_pure, Result.andThen_ok, hl i]
  exact ⟨rfl, rfl⟩
theorem run_guard_en (w : World) (x y : Operand) (p q : En) : (eqGuard .neq 27 x y (enV p) (enV q)).run Tryz.prog w = .ok () w :=
  run_eqGuard_agg (P := Tryz.prog) w .neq 27 x y (enC p).toArray (enC q).toArray eq_guard
theorem run_neq_en (w : World) (p q : En) : (binOp .neq 27 (enV p) (enV q)).run Tryz.prog w = .ok (.bool (!eqE p q)) w := by
  have hb := run_neq_struct (P := Tryz.prog) w 27 (enC p).toArray (enC q).toArray
  have he := eq_en w p q
  unfold enV at he ⊢
  rw [hb, he, Result.andThen_ok]
/-- Two entries held against each other, as a step of such a region. -/
theorem quiet_neq_en {D : World → Prop} {ops : Array Oper} {rest : List Oper} {o : Oper} {a : Act} {Q : Act → Prop} (hgd : Region.wanted o (yielded ops a.tmps) = true) (x y : Operand) (ho : o.op = .binOp .neq 27 x y 27) (p q : En) (hx : a.eval x = enV p) (hy : a.eval y = enV q)
    (h : wpQuiet Tryz.prog ops (fun w' => ∃ i : InC D, w' = i.w) Q rest (a.put o.dst (.bool (!eqE p q)))) : wpQuiet Tryz.prog ops (fun w' => ∃ i : InC D, w' = i.w) Q (o :: rest) a := by
  refine wpQuiet_step fun K hK => ?_
  rw [if_pos hgd]
  refine ⟨.bool (!eqE p q), fun w' hw => ?_, hK _ h⟩
  obtain ⟨i, rfl⟩ := hw
  unfold Oper.quietAt execOp
  simp only [ho, hx, hy, Sem.run_bind, run_guard_en, run_neq_en, Result.andThen_ok]
  exact ⟨rfl, rfl⟩
theorem wpList_neq_en {ops : Array Oper} {rest : List Oper} {o : Oper} {a : Act} {w : World} {Q : Exit → Act → World → Prop} (hw : Region.wanted o (yielded ops a.tmps) = true) (x y : Operand) (ho : o.op = .binOp .neq 27 x y 27) (p q : En) (hx : a.eval x = enV p) (hy : a.eval y = enV q)
    (h : wpList Tryz.prog ops Q rest (a.put o.dst (.bool (!eqE p q))) w) : wpList Tryz.prog ops Q (o :: rest) a w := by
  refine wpList_wanted hw ?_
  unfold Oper.wp execOp
  simp only [ho, hx, hy, Sem.run_bind, run_guard_en, run_neq_en, Result.andThen_ok]
  exact h
/-- One entry of a slice, loaded whole in whatever world nothing of this one turned. -/
theorem EnS.load {w : World} {g o n c i : Nat} {L : List En} {e : En} (h : EnS w (.slice (some ⟨g, o, none⟩) n c) L) (he : L[i]? = some e) : (loadVar 27 ⟨g, o + i * 3, none⟩).run Tryz.prog w = .ok (enV e) w := by
  obtain ⟨g', o', e0, _, hc⟩ := h.at (by have := (List.getElem?_eq_some_iff.1 he).1; omega)
  cases e0
  obtain ⟨h0, h1, h2⟩ := hc i e he
  exact run_load_at h0 h1 h2
theorem EnS.ptr {w : World} {a0 : Option Addr} {n c i : Nat} {L : List En} {e : En} (h : EnS w (.slice a0 n c) L) (he : L[i]? = some e) : ∃ g o, a0 = some ⟨g, o, none⟩ := by
  obtain ⟨g, o, e0, _⟩ := h.at (by have := (List.getElem?_eq_some_iff.1 he).1; omega)
  exact ⟨g, o, e0⟩

set_option maxHeartbeats 1000000 in
/-- Entries of one's own. -/
theorem own_any (w : World) (x : Value) (L : List En) (hx : EnS w x L) (hl : L.length ≤ 1000000) :
    Calls Tryz.prog 8 #[x] w fun e w' => ∃ v, e = .returned v ∧ EnO w.heap.size w' v L ∧ Stay (fun _ => False) w w' := by
  have HX := Lib.hid hx
  obtain ⟨a0, c, rfl⟩ := hx.form
  clear hx
  go_enter Tryz.func8, Tryz.ntmps8
  go_wp2_with (at_builtin; refine wpList_append_en rfl (.tmp 4) (.tmp 5) 22 rfl Tryz.underlying22 rfl rfl (EnO.nil w.heap.size w) HX.out (by simp; omega) (Nat.le_refl _) ?_; intro v' w1 hown hgr hnn)
  go_ret
  exact ⟨_, rfl, by simpa using hown, hgr.mono (fun k hk => by cases hk)⟩

set_option maxHeartbeats 4000000 in
theorem rsize_any (w : World) (x : Value) (L : List En) (hx : EnS w x L) (hz : sizeL L ≤ 1000000000000000000) :
    Calls Tryz.prog 5 #[x] w fun e w' => e = .returned (.int .i64 (sizeL L : Int)) ∧ Stay (fun _ => False) w w' := by
  have HZ := Lib.hid hz
  have HX := Lib.hid hx
  obtain ⟨a0, c, rfl, hnc, hcm, _⟩ := hx
  clear hz
  go_enter Tryz.func5, Tryz.ntmps5
  go_wp2
  go_loopw [3, 4] (fun n i wr => ∃ j : Nat, j ≤ L.length ∧ i = .int .i64 (j : Int) ∧ n = .int .i64 (sizeL (L.take j) : Int) ∧ Stay (fun _ => False) w wr) (fun _ i _ => L.length - (intOf i).toNat)
  case atStart => exact ⟨0, Nat.zero_le _, rfl, rfl, Stay.refl _ _⟩
  case round =>
    obtain ⟨j, hj, rfl, rfl, hst⟩ := hrel
    have HT := Lib.hid hst
    clear hst
    by_cases hlt : j < L.length
    · obtain ⟨e, he⟩ : ∃ e, L[j]? = some e := ⟨_, List.getElem?_eq_getElem (by omega)⟩
      obtain ⟨g, o, rfl, _, hc⟩ := (HX.out.stay0 HT.out).at (by omega)
      obtain ⟨h0, h1, h2⟩ := hc _ e he
      have hs1 : sizeL (L.take (j + 1)) = sizeL (L.take j) + (e.k.length + e.v.length) := by rw [List.take_add_one, he]; exact sizeL_snoc _ _
      have hs2 : sizeL (L.take (j + 1)) ≤ sizeL L := by
        conv => rhs; rw [← List.take_append_drop (j + 1) L]
        rw [sizeL_append]
        omega
      have HS := Lib.hid hs1
      have hzz : sizeL (L.take j) + (e.k.length + e.v.length) ≤ 1000000000000000000 := by have := HZ.out; omega
      clear he hc h2 hs1 hs2
      generalize sizeL (L.take j) = S at *
      go_wp2
      go_quiet (fail)
      have HT2 := Lib.hid (HT.out.trans (stay_drewN (X := fun _ => False) wr nq))
      clear h0 h1
      go_wp2
      refine ⟨⟨j + 1, hlt, by go_num, ?_, HT2.out⟩, by simp [intOf]; omega⟩
      exact congrArg (Value.int .i64) (by rw [HS.out]; omega)
    · obtain rfl : j = L.length := by omega
      have HL := Lib.hid (show L.take L.length = L from List.take_length)
      rw [HL.out] at *
      go_wp2
      go_ret
      exact ⟨rfl, HT.out⟩
end Go.Proofs.YtahfgoafiepioaaGreatDoor.Me

/-
  mem: the document's Get and Range; what must come whatever the input is.
-/
namespace Go.Proofs.YtahfgoafiepioaaGreatDoor.Me
open Go.RowKit Go.Maps
set_option maxRecDepth 100000
set_option linter.unusedVariables false

theorem getL_take {L : List En} {k : List UInt8} {j : Nat} {e : En} (h : getL (L.take j) k = none) (he : L[j]? = some e) : getL (L.take (j + 1)) k = if e.k = k then some e else none := by
  rw [List.take_add_one, he]
  unfold getL at h ⊢
  rw [Option.toList_some, List.find?_append, h, Option.none_or, List.find?_singleton]
  by_cases hk : e.k = k <;> simp [hk]
theorem getL_some {L : List En} {k : List UInt8} {j : Nat} {e : En} (h : getL (L.take j) k = some e) : getL L k = some e := by
  have h0 : L = L.take j ++ L.drop j := (List.take_append_drop j L).symm
  rw [h0]
  unfold getL at h ⊢
  rw [List.find?_append, h, Option.some_or]

theorem rangeL_succ {L : List En} {j : Nat} {e : En} (he : L[j]? = some e) (a b : List UInt8) : rangeL (L.take (j + 1)) a b = rangeL (L.take j) a b ++ (if (!ltB e.k a && (b == [] || ltB e.k b)) = true then [e] else []) := by
  rw [List.take_add_one, he]
  unfold rangeL
  rw [Option.toList_some, List.filter_append]
  congr 1
  rw [List.filter_cons, List.filter_nil]
theorem rangeL_len (L : List En) (a b : List UInt8) : (rangeL L a b).length ≤ L.length := List.length_filter_le _ _

end Go.Proofs.YtahfgoafiepioaaGreatDoor.Me

/-
  mem: what must come whatever the input is; a Mem all of whose blocks are newer than a world.
-/
namespace Go.Proofs.YtahfgoafiepioaaGreatDoor.Me
open Go.RowKit Go.Maps
set_option maxRecDepth 100000
set_option linter.unusedVariables false

def sureL : List En := [⟨[97], [121], false⟩, ⟨[98], [], true⟩]
theorem sure_puts : putL (putL (putL [] ⟨[98], [120], false⟩) ⟨[97], [121], false⟩) ⟨[98], [], true⟩ = sureL := by decide +kernel
theorem sure_one : putL [] ⟨[98], [120], false⟩ = [⟨[98], [120], false⟩] := by decide +kernel
theorem sure_two : putL [⟨[98], [120], false⟩] ⟨[97], [121], false⟩ = [⟨[97], [121], false⟩, ⟨[98], [120], false⟩] := by decide +kernel
theorem sure_three : putL [⟨[97], [121], false⟩, ⟨[98], [120], false⟩] ⟨[98], [], true⟩ = sureL := by decide +kernel

theorem two_ens (w : World) (a b : En) : EnS (w.alloc (.cells (enRows [a, b]).toArray 27)) (.slice (some ⟨w.heap.size, 0, none⟩) 2 2) [a, b] := by
  have h := heap_alloc_new w (.cells (enRows [a, b]).toArray 27)
  refine ⟨_, 2, rfl, Nat.le_refl _, by decide, (fun h => by cases h), fun _ => ⟨_, 0, rfl, fun i e he j u hu => ?_⟩⟩
  rw [cell_of_row _ _ _ _ _ _ h, List.getElem?_toArray, show 0 + i * 3 + j = i * 3 + j by omega, enRows_get (List.getElem?_eq_some_iff.1 hu).1 _ _ he]
  exact hu

end Go.Proofs.YtahfgoafiepioaaGreatDoor.Me

/-
  mem's laws: what is put one behind the other; a Mem and the document's entries beside it.
-/
namespace Go.Proofs.YtahfgoafiepioaaGreatDoor.Me
open Go.RowKit Go.Maps
set_option maxRecDepth 100000
set_option linter.unusedVariables false

/-- A guard: the operation that comes up is this one. -/
theorem at_op {P : Program} {ops : Array Oper} {rest : List Oper} {o : Oper} {a : Act} {w : World} {Q : Exit → Act → World → Prop} (p : Op) (ho : o.op = p) (h : wpList P ops Q (o :: rest) a w) : wpList P ops Q (o :: rest) a w := h
/-- What is there when the first j of these were put. -/
def putsL (L : List En) : Nat → List En
  | 0 => []
  | j + 1 => match L[j]? with
    | some e => putL (putsL L j) e
    | none => putsL L j
theorem putsL_succ {L : List En} {j : Nat} {e : En} (h : L[j]? = some e) : putsL L (j + 1) = putL (putsL L j) e := by
  rw [putsL, h]
theorem putsL_len (L : List En) : ∀ j, (putsL L j).length ≤ j
  | 0 => Nat.le_refl _
  | j + 1 => by
    have := putsL_len L j
    unfold putsL
    split
    · have := length_putL_le (putsL L j) ‹_›
      omega
    · omega
theorem putsL_sorted (L : List En) : ∀ j, Sorted (putsL L j)
  | 0 => sorted_nil
  | j + 1 => by
    have := putsL_sorted L j
    unfold putsL
    split
    · exact sorted_put this _
    · exact this
/-- How long texts are that came in. -/
def Short (L : List En) : Prop := ∀ e ∈ L, e.k.length ≤ 140737488351232 ∧ e.v.length ≤ 140737488351232
theorem short_put {L : List En} (h : Short L) {e : En} (he : e.k.length ≤ 140737488351232 ∧ e.v.length ≤ 140737488351232) : Short (putL L e) := by
  intro x hx
  unfold putL at hx
  rcases List.mem_append.1 hx with hx | hx
  · exact h x (List.mem_of_mem_take hx)
  · rcases List.mem_cons.1 hx with rfl | hx
    · have := norm_len e
      rw [norm_k]
      omega
    · exact h x (List.mem_of_mem_drop hx)
theorem short_puts {L : List En} (h : Short L) : ∀ j, Short (putsL L j)
  | 0 => fun e he => by cases he
  | j + 1 => by
    have := short_puts h j
    unfold putsL
    split
    · rename_i e he
      exact short_put this (h e (List.mem_of_getElem? he))
    · exact this
theorem short_size {L : List En} (h : Short L) : sizeL L ≤ L.length * 281474976702464 := by
  induction L with
  | nil => exact Nat.le_refl _
  | cons e r ih =>
    have h1 := h e (by simp)
    have h2 := ih (fun x hx => h x (by simp [hx]))
    rw [sizeL, List.length_cons]
    omega
theorem size_puts {L : List En} (h : Short L) {j : Nat} (hj : j ≤ 1000) : sizeL (putsL L j) ≤ 1000000000000000000 := by
  have h1 := short_size (short_puts h j)
  have h2 := putsL_len L j
  have h3 : (putsL L j).length * 281474976702464 ≤ 1000 * 281474976702464 := Nat.mul_le_mul_right _ (by omega)
  omega

section
variable {w0 w w' : World} {p : Nat} {v : Value} {M : List En} {e : En}
end
end Go.Proofs.YtahfgoafiepioaaGreatDoor.Me

/-
  mem's laws: their arguments opened: entries, a key.
-/
namespace Go.Proofs.YtahfgoafiepioaaGreatDoor.Me
open Go.ChangeShapes Go.WideShapes Go.ChangeAt Go.RowKit Go.Deep
set_option maxRecDepth 100000
set_option linter.unusedVariables false

instance : Inhabited En := ⟨⟨[], [], false⟩⟩
theorem cells_str : Tryz.prog.cellsOf 9 = 1 := by kernel_rfl
theorem cells_b : Tryz.prog.cellsOf 4 = 1 := by kernel_rfl
theorem cells_en : Tryz.prog.cellsOf 27 = 3 := by kernel_rfl
section
variable {H : Type} {enc : TypeId × Value → H}
theorem key_weight {d : DataW H} {k : List UInt8} (hd : d = .lit (.string k)) (hw : (d.weights Tryz.prog 9).all (· ≤ reachBytes) = true) : k.length ≤ 140737488351232 := by
  subst hd
  simp only [DataW.weights, List.all_cons, List.all_nil, Bool.and_true, decide_eq_true_eq] at hw
  exact hw
theorem key_cells {w : World} {fuel : Nat} {cs : List Value} {x : DataW H × List MemPlace} (h : DataW.trod enc Tryz.prog w 0 (fun _ => true) true fuel 9 cs = some x) : ∃ k : List UInt8, cs = [strV k] ∧ x.1 = .lit (.string k) ∧ k.length ≤ 9223372036854775807 := by
  obtain ⟨s, e, e2, hm⟩ := DataW.trod_string Tryz.underlying9 h
  have hl : s.data.toList.length = s.size := Array.length_toList
  exact ⟨s.data.toList, e, congrArg Prod.fst e2, by rw [hl]; unfold maxLen at hm; omega⟩
theorem open_key {w : World} {b0 : Nat} {r : Reach} {d : DataW H} {p : List MemPlace} {v : Value} (hv : Value.okWide Tryz.prog w r b0 9 v) (h : DataW.Trod enc Tryz.prog w 0 (fun _ => true) true 9 v d p) :
    ∃ k : List UInt8, v = strV k := by
  obtain ⟨fuel, hf⟩ := h
  obtain ⟨k, e, e2, hl⟩ := key_cells hf
  obtain ⟨s, rfl⟩ : ∃ s, v = .string s := by
    cases v <;> first | exact ⟨_, rfl⟩ | (exfalso; simp [Value.cells, strV] at e; done) | (exfalso; simp [Value.okWide, Cell.okWide, Cell.ok, Tryz.underlying9] at hv; done)
  have e3 : Value.string s = strV k := by
    have e4 : [Value.string s] = [strV k] := e
    simpa using e4
  exact ⟨k, e3⟩
theorem en_weights (d0 d1 d2 : DataW H) : (DataW.agg [d0, d1, d2]).weights Tryz.prog 27 = DataW.weightsEach Tryz.prog [9, 9, 4] [d0, d1, d2] := by
  simp only [DataW.weights, Tryz.underlying27]
  rfl
theorem weights_each {ts : List TypeId} {ds : List (DataW H)} {n : Nat} (hsz : (DataW.weightsEach Tryz.prog ts ds).all (· ≤ n) = true) {j : Nat} {t : TypeId} {d : DataW H} (ht : ts[j]? = some t) (hd : ds[j]? = some d) : (d.weights Tryz.prog t).all (· ≤ n) = true := by
  induction ts generalizing ds j with
  | nil => simp at ht
  | cons t0 ts ih =>
    cases ds with
    | nil => simp at hd
    | cons d0 ds =>
      rw [DataW.weightsEach, List.all_append, Bool.and_eq_true] at hsz
      cases j with
      | zero =>
        simp at ht hd
        subst ht hd
        exact hsz.1
      | succ j => exact ih hsz.2 (by simpa using ht) (by simpa using hd)
theorem weights_in {e : TypeId} {l : List (DataW H)} {d : DataW H} (hd : d ∈ l) {n : Nat} (h : (DataW.weightsAll Tryz.prog e l).all (· ≤ n) = true) : (d.weights Tryz.prog e).all (· ≤ n) = true := by
  induction l with
  | nil => cases hd
  | cons x r ih =>
    rw [DataW.weightsAll, List.all_append, Bool.and_eq_true] at h
    rcases List.mem_cons.1 hd with rfl | hd
    · exact h.1
    · exact ih hd h.2
/-- An entry that came in. -/
theorem open_en {w : World} {fuel : Nat} {cs : List Value} {x : DataW H × List MemPlace} (h : DataW.trod enc Tryz.prog w 0 (fun _ => true) true fuel 27 cs = some x) :
    ∃ e : En, cs = enC e ∧ ((x.1.weights Tryz.prog 27).all (· ≤ reachBytes) = true → e.k.length ≤ 140737488351232 ∧ e.v.length ≤ 140737488351232) := by
  obtain ⟨y0, y1, y2, m, rfl, hl, g0, g1, g2⟩ := trod_struct3 Tryz.underlying27 h
  rw [cells_en] at hl
  simp only [cells_str, cells_b] at g0 g1 g2
  obtain ⟨v0, v1, v2, rfl⟩ : ∃ v0 v1 v2, cs = [v0, v1, v2] := by
    match cs, hl with
    | [v0, v1, v2], _ => exact ⟨v0, v1, v2, rfl⟩
  simp at g0 g1 g2
  obtain ⟨k, e0, d0, _⟩ := key_cells g0
  obtain ⟨u, e1, d1, _⟩ := key_cells g1
  obtain ⟨g, e2, _⟩ := DataW.trod_bool Tryz.underlying4 g2
  refine ⟨⟨k, u, g⟩, ?_, fun hw => ?_⟩
  · simp at e0 e1 e2
    simp [enC, e0, e1, e2]
  · rw [en_weights] at hw
    exact ⟨key_weight d0 (weights_each hw (j := 0) rfl rfl), key_weight d1 (weights_each hw (j := 1) rfl rfl)⟩
/-- Entries that came in. -/
theorem open_ens {w : World} {d : DataW H} {p : List MemPlace} {a0 : Option Addr} {n c : Nat} (h : DataW.Trod enc Tryz.prog w 0 (fun _ => true) true 22 (.slice a0 n c) d p) :
    ∃ L : List En, n = L.length ∧ EnS w (.slice a0 n c) L ∧ ((d.weights Tryz.prog 22).all (· ≤ reachBytes) = true → Short L) := by
  obtain ⟨fuel, hf⟩ := h
  have hf' : DataW.trod enc Tryz.prog w 0 (fun _ => true) true fuel 22 [.slice a0 n c] = some (d, p) := hf
  rcases open_slice Tryz.underlying22 hf' with ⟨h0, _⟩ | ⟨a, len, cap, m, k, D, Pl, h0, _, hl, hm, hmm, hd, hx⟩
  · simp at h0
    obtain ⟨rfl, rfl, rfl⟩ := h0
    exact ⟨[], rfl, EnS.nil w, fun _ e he => by cases he⟩
  · simp at h0
    obtain ⟨rfl, rfl, rfl⟩ := h0
    simp only [if_true] at hmm
    subst hmm
    rw [cells_en] at hx
    cases hd
    unfold maxLen at hm
    have one : ∀ i, i < n → ∃ e : En, (∀ j u, (enC e)[j]? = some u → w.cell? ((a.add (i * 3)).add j) = some u) ∧ (((D i).weights Tryz.prog 27).all (· ≤ reachBytes) = true → e.k.length ≤ 140737488351232 ∧ e.v.length ≤ 140737488351232) := by
      intro i hi
      obtain ⟨cs, hc, ht⟩ := hx i (by omega)
      obtain ⟨_, hlen, hcell⟩ := World.cells?_some hc
      obtain ⟨e, rfl, hw⟩ := open_en ht
      refine ⟨e, fun j u hu => ?_, hw⟩
      have := hcell j (by have := (List.getElem?_eq_some_iff.1 hu).1; omega)
      rw [this]
      exact hu
    obtain ⟨T, hT⟩ := choose_lt (α := En) (n := n) one
    have hln : ((List.range n).map T).length = n := by simp
    refine ⟨(List.range n).map T, hln.symm, ⟨some a, _, by rw [hln], by rw [hln]; exact hl, by omega, (fun h => by cases h), fun h0 => ?_⟩, fun hw e he => ?_⟩
    · rw [hln] at h0
      have ha : a = ⟨a.block, a.off, none⟩ := by
        have h1 := (hT 0 h0).1 0 _ rfl
        have e0 : (a.add (0 * 3)).add 0 = a := rfl
        rw [e0] at h1
        obtain ⟨b, o, sp⟩ := a
        cases sp with
        | none => rfl
        | some q =>
          have : w.cell? ⟨b, o, some q⟩ = none := by unfold World.cell?; split <;> simp
          rw [this] at h1; cases h1
      refine ⟨a.block, a.off, by rw [← ha], fun i e he j u hu => ?_⟩
      have hi : i < n := by
        have := (List.getElem?_eq_some_iff.1 he).1
        rwa [hln] at this
      have he2 : e = T i := by simpa [hi] using he.symm
      have h2 := (hT i hi).1 j u (he2 ▸ hu)
      rw [ha, add_at, add_at] at h2
      exact h2
    · obtain ⟨i, hi, rfl⟩ := List.mem_map.1 he
      have hi := List.mem_range.1 hi
      simp only [DataW.weights, Tryz.underlying22, List.all_cons, List.all_append, Bool.and_eq_true] at hw
      exact (hT i hi).2 (weights_in (List.mem_map_of_mem (f := D) (List.mem_range.2 hi)) hw.2.1)
end
end Go.Proofs.YtahfgoafiepioaaGreatDoor.Me

