/-
  mem, plain: how keys are in order; entries in order of their keys; an entry laid in, found, told in a range.
-/
import Derived.Test.YtdfhjmodacjilaaRows
import Derived.Lib.Bytealg
namespace Go.Proofs.Ytdfhjmodacjilaa.Me
set_option maxRecDepth 100000
set_option linter.unusedVariables false

/-- Whether bytes are ahead of others. -/
def ltB (p q : List UInt8) : Bool := decide (p < q)
theorem less_eq : ∀ (x y : List UInt8), Op.bytesLess x y = ltB x y
  | [], [] => by simp [Op.bytesLess, ltB]
  | _ :: _, [] => by simp [Op.bytesLess, ltB]
  | [], _ :: _ => by simp [Op.bytesLess, ltB]
  | a :: x, b :: y => by
    rw [Op.bytesLess, less_eq x y]
    unfold ltB
    simp only [List.cons_lt_cons_iff]
    by_cases h1 : a < b <;> by_cases h2 : a = b <;> by_cases h3 : x < y <;> simp [h1, h2, h3]
theorem cmp_lt : ∀ (x y : List UInt8), decide (Lib.compareBytes x y < 0) = ltB x y
  | [], [] => by simp [Lib.compareBytes, ltB]
  | _ :: _, [] => by simp [Lib.compareBytes, ltB]
  | [], _ :: _ => by simp [Lib.compareBytes, ltB]
  | a :: x, b :: y => by
    have ih := cmp_lt x y
    unfold ltB at ih ⊢
    unfold Lib.compareBytes
    by_cases h1 : a < b
    · simp [h1, List.cons_lt_cons_iff]
    · by_cases h2 : b < a
      · have h3 : a ≠ b := by rintro rfl; exact h1 h2
        simp [h1, h2, h3, List.cons_lt_cons_iff]
      · have h3 : a = b := UInt8.le_antisymm (UInt8.not_lt.1 h2) (UInt8.not_lt.1 h1)
        subst h3
        simp only [h1, if_false, List.cons_lt_cons_iff, false_or, true_and]
        exact ih
theorem cmp_eq0 : ∀ (x y : List UInt8), decide (Lib.compareBytes x y = 0) = (x == y)
  | [], [] => by simp [Lib.compareBytes]
  | _ :: _, [] => by simp [Lib.compareBytes]
  | [], _ :: _ => by simp [Lib.compareBytes]
  | a :: x, b :: y => by
    have ih := cmp_eq0 x y
    unfold Lib.compareBytes
    by_cases h1 : a < b
    · have h3 : a ≠ b := by rintro rfl; exact UInt8.lt_irrefl _ h1
      simp [h1, h3]
    · by_cases h2 : b < a
      · have h3 : a ≠ b := by rintro rfl; exact h1 h2
        simp [h1, h2, h3]
      · have h3 : a = b := UInt8.le_antisymm (UInt8.not_lt.1 h2) (UInt8.not_lt.1 h1)
        subst h3
        simp only [h1, if_false]
        simpa using ih
theorem cmp_i64 (x y : List UInt8) : -1 ≤ Lib.compareBytes x y ∧ Lib.compareBytes x y ≤ 1 := by
  induction x generalizing y with
  | nil => cases y <;> simp [Lib.compareBytes]
  | cons a x ih =>
    cases y with
    | nil => simp [Lib.compareBytes]
    | cons b y =>
      unfold Lib.compareBytes
      split
      · omega
      · split
        · omega
        · exact ih y
theorem lt_self (p : List UInt8) : ltB p p = false := by simp [ltB]
theorem lt_asymm {p q : List UInt8} (h : ltB p q = true) : ltB q p = false := by
  unfold ltB at *
  simp only [decide_eq_true_eq, decide_eq_false_iff_not] at *
  exact List.lt_asymm h
theorem lt_one {p q : List UInt8} (h1 : ltB p q = false) (h2 : ltB q p = false) : p = q := by
  unfold ltB at h1 h2
  exact List.le_antisymm (List.not_lt.1 (of_decide_eq_false h2)) (List.not_lt.1 (of_decide_eq_false h1))
theorem lt_trans {p q r : List UInt8} (h1 : ltB p q = true) (h2 : ltB q r = true) : ltB p r = true := by
  unfold ltB at *
  simp only [decide_eq_true_eq] at *
  exact List.lt_trans h1 h2
theorem lt_le {p q r : List UInt8} (h1 : ltB p q = true) (h2 : ltB r q = false) : ltB p r = true := by
  cases h : ltB p r with
  | true => rfl
  | false =>
    cases h3 : ltB r p with
    | true => rw [lt_trans h3 h1] at h2; cases h2
    | false => rw [lt_one h h3] at h1; rw [h1] at h2; cases h2
theorem le_lt {p q r : List UInt8} (h1 : ltB q p = false) (h2 : ltB q r = true) : ltB p r = true := by
  cases h : ltB p q with
  | true => exact lt_trans h h2
  | false => rw [lt_one h h1]; exact h2
theorem lt_ne {p q : List UInt8} (h : ltB p q = true) : p ≠ q := by
  rintro rfl
  rw [lt_self] at h
  cases h
theorem lt_nil (p : List UInt8) : ltB p [] = false := by simp [ltB]

/-- An entry. -/
structure En where
  k : List UInt8
  v : List UInt8
  g : Bool
deriving DecidableEq
/-- One that is gone has no value. -/
def norm (e : En) : En := if e.g then ⟨e.k, [], true⟩ else e
theorem norm_k (e : En) : (norm e).k = e.k := by unfold norm; split <;> rfl
theorem norm_g (e : En) : (norm e).g = e.g := by
  unfold norm
  split
  · rename_i h; exact h.symm
  · rfl
theorem norm_v (e : En) : (norm e).v = if e.g then [] else e.v := by unfold norm; split <;> rfl
theorem norm_len (e : En) : (norm e).v.length ≤ e.v.length := by rw [norm_v]; split <;> simp

/-- How many, from the first on, are ahead of a key. -/
def posN : List En → List UInt8 → Nat
  | [], _ => 0
  | e :: r, k => if ltB e.k k then posN r k + 1 else 0
theorem posN_le (k : List UInt8) : ∀ L : List En, posN L k ≤ L.length
  | [] => Nat.le_refl _
  | e :: r => by
    have := posN_le k r
    unfold posN
    split
    · simp; omega
    · omega
theorem posN_lt (k : List UInt8) : ∀ (L : List En) (t : Nat), t < posN L k → ∀ e, L[t]? = some e → ltB e.k k = true
  | [], t, h, e, _ => by simp [posN] at h
  | x :: r, t, h, e, he => by
    unfold posN at h
    by_cases hx : ltB x.k k = true
    · rw [if_pos hx] at h
      cases t with
      | zero => simp at he; rw [← he]; exact hx
      | succ t => exact posN_lt k r t (by omega) e (by simpa using he)
    · rw [if_neg hx] at h; omega
theorem posN_at (k : List UInt8) : ∀ (L : List En) (e : En), L[posN L k]? = some e → ltB e.k k = false
  | [], e, h => by simp at h
  | x :: r, e, h => by
    unfold posN at h
    by_cases hx : ltB x.k k = true
    · rw [if_pos hx] at h
      exact posN_at k r e (by simpa using h)
    · rw [if_neg hx] at h
      simp at h
      rw [← h]
      simpa using hx
theorem posN_is (k : List UInt8) : ∀ (L : List En) (i : Nat), i ≤ L.length → (∀ t, t < i → ∀ e, L[t]? = some e → ltB e.k k = true) → (∀ e, L[i]? = some e → ltB e.k k = false) → posN L k = i
  | [], i, hi, _, _ => by simp at hi; simp [posN, hi]
  | x :: r, 0, _, _, h2 => by
    unfold posN
    rw [if_neg]
    simp [h2 x rfl]
  | x :: r, i + 1, hi, h1, h2 => by
    unfold posN
    rw [if_pos (h1 0 (by omega) x rfl), posN_is k r i (by simpa using hi) (fun t ht e he => h1 (t + 1) (by omega) e (by simpa using he)) (fun e he => h2 e (by simpa using he))]

/-- Whether a key is there. -/
def hasB (L : List En) (k : List UInt8) : Bool := match L[posN L k]? with
  | some e => e.k == k
  | none => false
/-- An entry laid in. -/
def putL (L : List En) (e : En) : List En := L.take (posN L e.k) ++ norm e :: L.drop (if hasB L e.k then posN L e.k + 1 else posN L e.k)
/-- A key's entry. -/
def getL (L : List En) (k : List UInt8) : Option En := L.find? (fun e => e.k == k)
/-- In order of their keys, each once. -/
def Sorted (L : List En) : Prop := L.Pairwise fun a b => ltB a.k b.k = true
/-- Those from one key on, up to another one. -/
def rangeL (L : List En) (a b : List UInt8) : List En := L.filter fun e => !ltB e.k a && (b == [] || ltB e.k b)
/-- How many bytes. -/
def sizeL : List En → Nat
  | [] => 0
  | e :: r => e.k.length + e.v.length + sizeL r
theorem sizeL_append (A B : List En) : sizeL (A ++ B) = sizeL A + sizeL B := by
  induction A with
  | nil => simp [sizeL]
  | cons e r ih => simp only [List.cons_append, sizeL, ih]; omega
theorem sizeL_snoc (A : List En) (e : En) : sizeL (A ++ [e]) = sizeL A + (e.k.length + e.v.length) := by rw [sizeL_append]; simp [sizeL]

theorem hasB_lt {L : List En} {k : List UInt8} (h : hasB L k = true) : posN L k < L.length := by
  unfold hasB at h
  split at h
  · rename_i e he; exact (List.getElem?_eq_some_iff.1 he).1
  · cases h
theorem length_putL (L : List En) (e : En) : (putL L e).length = if hasB L e.k then L.length else L.length + 1 := by
  have := posN_le e.k L
  unfold putL
  rw [List.length_append, List.length_take, List.length_cons, List.length_drop]
  by_cases h : hasB L e.k = true
  · have := hasB_lt h
    simp only [h, if_true]
    omega
  · simp only [h]
    simp
    omega
theorem length_putL_le (L : List En) (e : En) : (putL L e).length ≤ L.length + 1 := by rw [length_putL]; split <;> omega

theorem sorted_tail {e : En} {r : List En} (h : Sorted (e :: r)) : Sorted r := (List.pairwise_cons.1 h).2
theorem sorted_head {e : En} {r : List En} (h : Sorted (e :: r)) : ∀ x ∈ r, ltB e.k x.k = true := (List.pairwise_cons.1 h).1
theorem sorted_nil : Sorted [] := List.Pairwise.nil
theorem sorted_at {L : List En} (h : Sorted L) {i j : Nat} (hij : i < j) {a b : En} (ha : L[i]? = some a) (hb : L[j]? = some b) : ltB a.k b.k = true := by
  obtain ⟨h1, rfl⟩ := List.getElem?_eq_some_iff.1 ha
  obtain ⟨h2, rfl⟩ := List.getElem?_eq_some_iff.1 hb
  exact List.pairwise_iff_getElem.1 h i j h1 h2 hij
/-- What is not ahead of a key stands behind all that is. -/
theorem sorted_from {L : List En} (h : Sorted L) (k : List UInt8) : ∀ i, posN L k ≤ i → ∀ e, L[i]? = some e → ltB e.k k = false := by
  intro i hi e he
  have hl := (List.getElem?_eq_some_iff.1 he).1
  obtain ⟨x, hx⟩ : ∃ x, L[posN L k]? = some x := ⟨_, List.getElem?_eq_getElem (by omega)⟩
  have h0 := posN_at k L x hx
  by_cases e0 : posN L k = i
  · subst e0
    rw [hx] at he
    cases he
    exact h0
  · have h1 := sorted_at h (show posN L k < i by omega) hx he
    cases h2 : ltB e.k k with
    | false => rfl
    | true => rw [lt_trans h1 h2] at h0; cases h0
theorem hasB_at {L : List En} {k : List UInt8} (h : hasB L k = true) : ∃ e, L[posN L k]? = some e ∧ e.k = k := by
  unfold hasB at h
  split at h
  · rename_i e he
    exact ⟨e, he, by simpa using h⟩
  · cases h
theorem hasB_not {L : List En} {k : List UInt8} (h : hasB L k = false) {e : En} (he : L[posN L k]? = some e) : e.k ≠ k := by
  unfold hasB at h
  rw [he] at h
  simpa using h

theorem find_append {α : Type} (p : α → Bool) (A B : List α) (h : ∀ x ∈ A, p x = false) : (A ++ B).find? p = B.find? p := by
  induction A with
  | nil => rfl
  | cons a r ih => rw [List.cons_append, List.find?_cons, h a (by simp)]; exact ih (fun x hx => h x (by simp [hx]))
theorem find_none {α : Type} (p : α → Bool) (A : List α) (h : ∀ x ∈ A, p x = false) : A.find? p = none := by
  have := find_append p A [] h
  simpa using this

theorem take_lt {L : List En} {k : List UInt8} : ∀ x ∈ L.take (posN L k), ltB x.k k = true := by
  intro x hx
  obtain ⟨t, ht, rfl⟩ := List.getElem_of_mem hx
  rw [List.length_take] at ht
  exact posN_lt k L t (by omega) _ (by rw [List.getElem_take]; exact List.getElem?_eq_getElem (by omega))
theorem drop_ge {L : List En} (h : Sorted L) {k : List UInt8} {i : Nat} (hi : posN L k ≤ i) : ∀ x ∈ L.drop i, ltB x.k k = false := by
  intro x hx
  obtain ⟨t, ht, rfl⟩ := List.getElem_of_mem hx
  rw [List.length_drop] at ht
  refine sorted_from h k (i + t) (by omega) _ ?_
  rw [List.getElem_drop]
  exact List.getElem?_eq_getElem (by omega)
/-- What stands behind the key's place, but for the key itself. -/
theorem drop_gt {L : List En} (h : Sorted L) (k : List UInt8) : ∀ x ∈ L.drop (if hasB L k then posN L k + 1 else posN L k), ltB k x.k = true := by
  intro x hx
  have hge : ltB x.k k = false := drop_ge h (by split <;> omega) x hx
  cases hl : ltB k x.k with
  | true => rfl
  | false =>
    exfalso
    have hk := lt_one hge hl
    obtain ⟨t, ht, rfl⟩ := List.getElem_of_mem hx
    rw [List.length_drop] at ht
    rw [List.getElem_drop] at hk
    by_cases hb : hasB L k = true
    · simp only [hb, if_true] at hk ht
      obtain ⟨e, he, hek⟩ := hasB_at hb
      have := sorted_at h (show posN L k < posN L k + 1 + t by omega) he (List.getElem?_eq_getElem (by omega))
      rw [hek, hk, lt_self] at this
      cases this
    · simp only [Bool.not_eq_true] at hb
      simp only [hb, Bool.false_eq_true, if_false] at hk ht
      obtain ⟨y, hy⟩ : ∃ y, L[posN L k]? = some y := ⟨_, List.getElem?_eq_getElem (by omega)⟩
      have hne := hasB_not hb hy
      cases t with
      | zero =>
        have : L[posN L k + 0] = y := by
          obtain ⟨_, e⟩ := List.getElem?_eq_some_iff.1 hy
          exact e
        rw [this] at hk
        exact hne hk
      | succ t =>
        have h2 := sorted_at h (show posN L k < posN L k + (t + 1) by omega) hy (List.getElem?_eq_getElem (by omega))
        rw [hk] at h2
        rw [posN_at k L y hy] at h2
        cases h2
theorem sorted_put {L : List En} (h : Sorted L) (e : En) : Sorted (putL L e) := by
  unfold putL
  have h1 : Sorted (L.take (posN L e.k)) := List.Pairwise.sublist (List.take_sublist _ _) h
  have h2 : Sorted (L.drop (if hasB L e.k then posN L e.k + 1 else posN L e.k)) := List.Pairwise.sublist (List.drop_sublist _ _) h
  refine List.pairwise_append.2 ⟨h1, List.pairwise_cons.2 ⟨fun x hx => ?_, h2⟩, fun x hx y hy => ?_⟩
  · rw [norm_k]; exact drop_gt h e.k x hx
  · rcases List.mem_cons.1 hy with rfl | hy
    · rw [norm_k]; exact take_lt x hx
    · exact lt_trans (take_lt x hx) (drop_gt h e.k y hy)
theorem getL_sorted {L : List En} (h : Sorted L) (k : List UInt8) : getL L k = if hasB L k then L[posN L k]? else none := by
  have e0 : L = L.take (posN L k) ++ L.drop (posN L k) := (List.take_append_drop _ _).symm
  have e1 : getL L k = (L.drop (posN L k)).find? (fun e => e.k == k) := by
    conv => lhs; rw [getL, e0]
    exact find_append _ _ _ (fun x hx => by simpa using lt_ne (take_lt x hx))
  rw [e1]
  by_cases hb : hasB L k = true
  · rw [if_pos hb]
    obtain ⟨e, he, hek⟩ := hasB_at hb
    obtain ⟨h1, h2⟩ := List.getElem?_eq_some_iff.1 he
    rw [List.drop_eq_getElem_cons h1, List.find?_cons, h2, he]
    simp [hek]
  · rw [if_neg hb]
    refine find_none _ _ (fun x hx => ?_)
    have := drop_gt h k x (by rw [if_neg hb]; exact hx)
    have h3 := lt_ne this
    simpa using fun h => h3 h.symm
theorem get_put {L : List En} (h : Sorted L) (e : En) (k : List UInt8) : getL (putL L e) k = if e.k = k then some (norm e) else getL L k := by
  by_cases hk : e.k = k
  · rw [if_pos hk]
    subst hk
    unfold getL putL
    rw [find_append _ _ _ (fun x hx => by simpa using lt_ne (take_lt x hx)), List.find?_cons]
    simp [norm_k]
  · rw [if_neg hk]
    have e1 : getL L k = (L.take (posN L e.k) ++ L.drop (if hasB L e.k then posN L e.k + 1 else posN L e.k)).find? (fun e => e.k == k) := by
      by_cases hb : hasB L e.k = true
      · obtain ⟨x, hx, hxk⟩ := hasB_at hb
        obtain ⟨h1, h2⟩ := List.getElem?_eq_some_iff.1 hx
        rw [if_pos hb]
        conv => lhs; rw [getL, ← List.take_append_drop (posN L e.k) L, List.drop_eq_getElem_cons h1, h2]
        have : (x.k == k) = false := by simpa [hxk] using hk
        rw [List.find?_append, List.find?_append, List.find?_cons, this]
      · rw [if_neg hb, List.take_append_drop]
        rfl
    rw [e1]
    unfold getL putL
    have : ((norm e).k == k) = false := by simpa [norm_k] using hk
    rw [List.find?_append, List.find?_append, List.find?_cons, this]

theorem getL_mem {L : List En} (h : Sorted L) (e : En) : e ∈ L ↔ getL L e.k = some e := by
  constructor
  · intro he
    induction L with
    | nil => cases he
    | cons a r ih =>
      unfold getL
      rw [List.find?_cons]
      rcases List.mem_cons.1 he with rfl | hr
      · simp
      · have h1 := sorted_head h e hr
        have : (a.k == e.k) = false := by simpa using lt_ne h1
        rw [this]
        exact ih (sorted_tail h) hr
  · intro he
    exact List.mem_of_find?_eq_some he
theorem sorted_ext : ∀ {A B : List En}, Sorted A → Sorted B → (∀ e, e ∈ A ↔ e ∈ B) → A = B
  | [], [], _, _, _ => rfl
  | [], b :: B, _, _, h => by have := (h b).2 (by simp); cases this
  | a :: A, [], _, _, h => by have := (h a).1 (by simp); cases this
  | a :: A, b :: B, hA, hB, h => by
    have hab : a = b := by
      rcases List.mem_cons.1 ((h a).1 (by simp)) with e | h1
      · exact e
      · rcases List.mem_cons.1 ((h b).2 (by simp)) with e | h2
        · exact e.symm
        · have h3 := sorted_head hB a h1
          have h4 := sorted_head hA b h2
          rw [lt_asymm h3] at h4
          cases h4
    subst hab
    congr 1
    refine sorted_ext (sorted_tail hA) (sorted_tail hB) (fun e => ⟨fun he => ?_, fun he => ?_⟩)
    · rcases List.mem_cons.1 ((h e).1 (by simp [he])) with rfl | h1
      · have := sorted_head hA e he
        rw [lt_self] at this
        cases this
      · exact h1
    · rcases List.mem_cons.1 ((h e).2 (by simp [he])) with rfl | h1
      · have := sorted_head hB e he
        rw [lt_self] at this
        cases this
      · exact h1
theorem get_ext {A B : List En} (hA : Sorted A) (hB : Sorted B) (h : ∀ k, getL A k = getL B k) : A = B :=
  sorted_ext hA hB (fun e => by rw [getL_mem hA, getL_mem hB, h])

theorem filter_none {α : Type} (p : α → Bool) (A : List α) (h : ∀ x ∈ A, p x = false) : A.filter p = [] := List.filter_eq_nil_iff.2 (fun x hx => by simp [h x hx])
theorem range_sorted (a b : List UInt8) : ∀ {L : List En}, Sorted L → rangeL L a b = (L.drop (posN L a)).take (max (posN L a) (if b = [] then L.length else posN L b) - posN L a)
  | [], _ => by simp [rangeL, posN]
  | e :: r, h => by
    have ih := range_sorted a b (sorted_tail h)
    have hh := sorted_head h
    unfold rangeL at ih ⊢
    by_cases h1 : ltB e.k a = true
    · have e1 : posN (e :: r) a = posN r a + 1 := by simp [posN, h1]
      rw [e1, List.filter_cons_of_neg (by simp [h1]), List.drop_succ_cons, ih]
      by_cases hb : b = []
      · simp only [hb, if_true, List.length_cons]
        congr 1
        omega
      · simp only [hb, if_false]
        by_cases h2 : ltB e.k b = true
        · simp only [posN, h2, if_true]
          congr 1
          omega
        · have e2 : posN (e :: r) b = 0 := by simp [posN, h2]
          have e3 : posN r b = 0 := by
            refine posN_is b r 0 (by omega) (fun t ht => by omega) (fun x hx => ?_)
            cases h3 : ltB x.k b with
            | false => rfl
            | true => exact absurd (lt_trans (hh x (List.mem_of_getElem? hx)) h3) h2
          rw [e2, e3]
          simp
    · have h1' : ltB e.k a = false := by simpa using h1
      have e1 : posN (e :: r) a = 0 := by simp [posN, h1']
      have e1r : posN r a = 0 := by
        refine posN_is a r 0 (by omega) (fun t ht => by omega) (fun x hx => ?_)
        cases h3 : ltB x.k a with
        | false => rfl
        | true => exact absurd (lt_trans (hh x (List.mem_of_getElem? hx)) h3) h1
      rw [e1, List.drop_zero, Nat.sub_zero, Nat.zero_max]
      rw [e1r, List.drop_zero, Nat.sub_zero, Nat.zero_max] at ih
      by_cases hb : b = []
      · rw [List.filter_cons_of_pos (by simp [h1', hb]), ih]
        simp [hb]
      · by_cases h2 : ltB e.k b = true
        · rw [List.filter_cons_of_pos (by simp [h1', h2]), ih]
          simp [hb, posN, h2]
        · have e2 : posN (e :: r) b = 0 := by simp [posN, h2]
          simp only [hb, if_false, e2, List.take_zero]
          refine filter_none _ _ (fun x hx => ?_)
          have : ltB x.k b = false := by
            rcases List.mem_cons.1 hx with rfl | hx
            · simpa using h2
            · cases h3 : ltB x.k b with
              | false => rfl
              | true => exact absurd (lt_trans (hh x hx) h3) h2
          simp [this, hb]
end Go.Proofs.Ytdfhjmodacjilaa.Me
