/-
  delta, in plain lists: matches, parts, what they make.
-/
import Derived.Test.YtnlknnhibnfhcaaDoorPkPlain
namespace Go.Proofs.YtnlknnhibnfhcaaDoor.De

/-- With how many bytes both begin. -/
def alikeN : List UInt8 → List UInt8 → Nat
  | a :: l, b :: r => if a = b then alikeN l r + 1 else 0
  | _, _ => 0

theorem alikeN_le : ∀ a b : List UInt8, alikeN a b ≤ a.length ∧ alikeN a b ≤ b.length
  | [], b => by simp [alikeN]
  | a :: l, [] => by simp [alikeN]
  | a :: l, b :: r => by
    unfold alikeN
    split
    · have := alikeN_le l r
      simp only [List.length_cons]
      omega
    · omega
/-- Behind n bytes that both begin with. -/
theorem alikeN_drop : ∀ (n : Nat) (a b : List UInt8), (∀ i, i < n → a[i]? = b[i]?) → n ≤ a.length → n ≤ b.length → alikeN a b = n + alikeN (a.drop n) (b.drop n)
  | 0, a, b, _, _, _ => by simp
  | n + 1, [], b, _, h, _ => by simp at h
  | n + 1, a :: l, [], _, _, h => by simp at h
  | n + 1, a :: l, b :: r, h, h1, h2 => by
    have e := h 0 (by omega)
    simp at e
    subst e
    have ih := alikeN_drop n l r (fun i hi => by have := h (i + 1) (by omega); simpa using this) (by simpa using h1) (by simpa using h2)
    rw [alikeN, if_pos rfl, ih]
    simp only [List.drop_succ_cons]
    omega
theorem alikeN_stop {n : Nat} {a b : List UInt8} (h : ∀ i, i < n → a[i]? = b[i]?) (h1 : n ≤ a.length) (h2 : n ≤ b.length) (h3 : n = a.length ∨ n = b.length ∨ a[n]? ≠ b[n]?) : alikeN a b = n := by
  rw [alikeN_drop n a b h h1 h2]
  have h4 : alikeN (a.drop n) (b.drop n) = 0 := by
    rcases h3 with h3 | h3 | h3
    · rw [List.drop_eq_nil_of_le (by omega)]; rfl
    · have e : b.drop n = [] := List.drop_eq_nil_of_le (by omega)
      rw [e]
      cases a.drop n <;> rfl
    · have e1 : (a.drop n)[0]? = a[n]? := by simp
      have e2 : (b.drop n)[0]? = b[n]? := by simp
      cases ha : a.drop n with
      | nil => rfl
      | cons x l =>
        cases hb : b.drop n with
        | nil => rfl
        | cons y r =>
          rw [ha] at e1
          rw [hb] at e2
          unfold alikeN
          rw [if_neg]
          intro e
          subst e
          simp at e1 e2
          exact h3 (by rw [← e1, ← e2])
  omega
theorem alikeN_eq : ∀ (a b : List UInt8) (i : Nat), i < alikeN a b → a[i]? = b[i]?
  | [], b, i, h => by simp [alikeN] at h
  | a :: l, [], i, h => by simp [alikeN] at h
  | a :: l, b :: r, i, h => by
    unfold alikeN at h
    split at h
    · rename_i e
      subst e
      cases i with
      | zero => rfl
      | succ i => simpa using alikeN_eq l r i (by omega)
    · omega
/-- So many bytes are the same, just where both begin with as many. -/
theorem alikeN_take {n : Nat} {a b : List UInt8} (h1 : n ≤ a.length) (h2 : n ≤ b.length) : a.take n = b.take n ↔ n ≤ alikeN a b := by
  constructor
  · intro h
    rw [alikeN_drop n a b (fun i hi => by
      have := congrArg (·[i]?) h
      simpa [List.getElem?_take, hi] using this) h1 h2]
    omega
  · intro h
    apply List.ext_getElem?
    intro i
    rw [List.getElem?_take, List.getElem?_take]
    by_cases hi : i < n
    · rw [if_pos hi, if_pos hi]
      exact alikeN_eq a b i (by omega)
    · rw [if_neg hi, if_neg hi]

/-- Of the first k places the first one from which most bytes are alike, and how many. -/
def bestN (base rest : List UInt8) : Nat → Nat × Nat
  | 0 => (0, 0)
  | k + 1 => if (bestN base rest k).2 < alikeN (base.drop k) rest then (k, alikeN (base.drop k) rest) else bestN base rest k

theorem best_max (base rest : List UInt8) : ∀ k i, i < k → alikeN (base.drop i) rest ≤ (bestN base rest k).2
  | 0, i, h => by omega
  | k + 1, i, h => by
    unfold bestN
    by_cases hi : i = k
    · subst hi
      split
      · exact Nat.le_refl _
      · omega
    · have := best_max base rest k i (by omega)
      split
      · show _ ≤ alikeN _ _
        omega
      · exact this
theorem best_is (base rest : List UInt8) : ∀ k, (bestN base rest k = (0, 0)) ∨ (0 < (bestN base rest k).2 ∧ (bestN base rest k).1 < k ∧ alikeN (base.drop (bestN base rest k).1) rest = (bestN base rest k).2 ∧ ∀ i, i < (bestN base rest k).1 → alikeN (base.drop i) rest < (bestN base rest k).2)
  | 0 => .inl rfl
  | k + 1 => by
    have hm := best_max base rest k
    unfold bestN
    split
    · rename_i h
      refine .inr ⟨by show 0 < alikeN _ _; omega, Nat.lt_succ_self k, rfl, fun i hi => ?_⟩
      have := hm i hi
      show _ < alikeN _ _
      omega
    · rcases best_is base rest k with h | ⟨h1, h2, h3, h4⟩
      · exact .inl h
      · exact .inr ⟨h1, by omega, h3, h4⟩
theorem best_le (base rest : List UInt8) (k : Nat) : (bestN base rest k).2 ≤ rest.length ∧ (bestN base rest k).1 ≤ k ∧ (bestN base rest k).1 + (bestN base rest k).2 ≤ base.length := by
  rcases best_is base rest k with h | ⟨h1, h2, h3, h4⟩
  · rw [h]
    simp
  · have := alikeN_le (base.drop (bestN base rest k).1) rest
    rw [h3, List.length_drop] at this
    refine ⟨by omega, by omega, by omega⟩
/-- The one that is found from the longest on, from the first place on. -/
theorem best_found {base rest : List UInt8} {k n i : Nat} (hn : 0 < n) (hi : i < k) (h1 : ∀ j, j < k → alikeN (base.drop j) rest ≤ n) (h2 : n ≤ alikeN (base.drop i) rest) (h3 : ∀ j, j < i → alikeN (base.drop j) rest < n) : bestN base rest k = (i, n) := by
  have hm := best_max base rest k i hi
  rcases best_is base rest k with h | ⟨e1, e2, e3, e4⟩
  · rw [h] at hm
    dsimp at hm
    omega
  · have h5 := h1 _ e2
    have e5 : (bestN base rest k).2 = n := by omega
    have e6 : (bestN base rest k).1 = i := by
      rcases Nat.lt_trichotomy (bestN base rest k).1 i with h | h | h
      · have := h3 _ h
        omega
      · exact h
      · have := e4 _ h
        omega
    rw [← e5, ← e6]
theorem best_none {base rest : List UInt8} {k : Nat} (h : ∀ j, j < k → alikeN (base.drop j) rest = 0) : bestN base rest k = (0, 0) := by
  rcases best_is base rest k with h1 | ⟨e1, e2, e3, _⟩
  · exact h1
  · have := h _ e2
    omega

/-- A match. -/
def matchN (base target : List UInt8) (p : Int) : Nat × Nat := if p < 0 ∨ 64 ≤ p then (0, 0) else bestN base (target.drop p.toNat) 64

/-- A part of a block. -/
structure Pt where
  cp : Bool
  f : Int
  n : Int
  b : List UInt8
deriving DecidableEq
def tellP (b : List UInt8) : Pt := ⟨false, 0, 0, b⟩
def copyP (f n : Nat) : Pt := ⟨true, f, n, []⟩
/-- Parts, and bytes that are told behind them. -/
def flatP (l : List Pt) (t : List UInt8) : List Pt := if t = [] then l else l ++ [tellP t]
def opsGo (base target : List UInt8) : Nat → Nat → List Pt → List UInt8 → List Pt
  | 0, _, l, t => flatP l t
  | k + 1, p, l, t =>
    if p < 64 then
      if 4 ≤ (bestN base (target.drop p) 64).2 then opsGo base target k (p + (bestN base (target.drop p) 64).2) (flatP l t ++ [copyP (bestN base (target.drop p) 64).1 (bestN base (target.drop p) 64).2]) []
      else opsGo base target k (p + 1) l (t ++ [target.getD p 0])
    else flatP l t
def opsN (base target : List UInt8) : List Pt := opsGo base target 64 0 [] []
theorem opsGo_end {base target : List UInt8} {k p : Nat} {l : List Pt} {t : List UInt8} (h : 64 ≤ p) : opsGo base target k p l t = flatP l t := by
  cases k with
  | zero => rfl
  | succ k => unfold opsGo; rw [if_neg (by omega)]
theorem opsGo_copy {base target : List UInt8} {k p : Nat} {l : List Pt} {t : List UInt8} (h : p < 64) (h4 : 4 ≤ (bestN base (target.drop p) 64).2) :
    opsGo base target (k + 1) p l t = opsGo base target k (p + (bestN base (target.drop p) 64).2) (flatP l t ++ [copyP (bestN base (target.drop p) 64).1 (bestN base (target.drop p) 64).2]) [] := by
  conv => lhs; unfold opsGo
  rw [if_pos h, if_pos h4]
theorem opsGo_tell {base target : List UInt8} {k p : Nat} {l : List Pt} {t : List UInt8} (h : p < 64) (h4 : ¬ 4 ≤ (bestN base (target.drop p) 64).2) :
    opsGo base target (k + 1) p l t = opsGo base target k (p + 1) l (t ++ [target.getD p 0]) := by
  conv => lhs; unfold opsGo
  rw [if_pos h, if_neg h4]

/-- The bytes of a part. -/
def ptBytes (base : List UInt8) (q : Pt) : List UInt8 := if q.cp then (base.drop q.f.toNat).take q.n.toNat else q.b
/-- A part as Ops tells it. -/
def Pt.Good (q : Pt) : Prop := (q.cp = true ∧ 4 ≤ q.n ∧ 0 ≤ q.f ∧ q.f + q.n ≤ 64 ∧ q.b = []) ∨ (q.cp = false ∧ q.f = 0 ∧ q.n = 0 ∧ 0 < q.b.length ∧ q.b.length ≤ 64)
/-- No two that are told follow one another; told tells whether the one ahead was. -/
def Apart : Bool → List Pt → Prop
  | _, [] => True
  | told, q :: r => (told = true → q.cp = true) ∧ Apart (!q.cp) r
/-- Parts that make the first p bytes of the block. -/
structure Made (base target : List UInt8) (p : Nat) (l : List Pt) : Prop where
  good : ∀ q ∈ l, q.Good
  apart : Apart false l
  is : l.flatMap (ptBytes base) = target.take p
def lastCp (l : List Pt) : Prop := ∀ q, l.getLast? = some q → q.cp = true

theorem apart_snoc : ∀ (l : List Pt) (told : Bool) (q : Pt), Apart told l → (l = [] → told = true → q.cp = true) → ((∃ z, l.getLast? = some z ∧ z.cp = false) → q.cp = true) → Apart told (l ++ [q])
  | [], told, q, _, h, _ => ⟨h rfl, trivial⟩
  | x :: r, told, q, h, _, h2 => by
    refine ⟨h.1, apart_snoc r (!x.cp) q h.2 (fun e t => h2 ⟨x, by rw [e]; rfl, by simpa using t⟩) (fun ⟨z, hz, hc⟩ => h2 ⟨z, ?_, hc⟩)⟩
    cases r with
    | nil => cases hz
    | cons y s => simpa [List.getLast?_cons_cons] using hz
theorem last_flat {l : List Pt} {t : List UInt8} (h : lastCp l) (q : Pt) (hq : (flatP l t).getLast? = some q) : q.cp = true ∨ t ≠ [] := by
  unfold flatP at hq
  split at hq
  · exact .inl (h q hq)
  · exact .inr (by assumption)

theorem made_flat {base target : List UInt8} {p : Nat} {l : List Pt} {t : List UInt8} {o : Nat} (hm : Made base target o l) (hl : lastCp l) (ht : target.take o ++ t = target.take p) (h64 : t.length ≤ 64) : Made base target p (flatP l t) := by
  unfold flatP
  split
  · rename_i h
    subst h
    rw [List.append_nil] at ht
    exact ⟨hm.good, hm.apart, hm.is.trans ht⟩
  · rename_i h
    refine ⟨fun q hq => ?_, apart_snoc l false _ hm.apart (fun _ e => by cases e) (fun ⟨z, hz, hc⟩ => ?_), ?_⟩
    · rcases List.mem_append.1 hq with hq | hq
      · exact hm.good q hq
      · obtain rfl := List.mem_singleton.1 hq
        exact .inr ⟨rfl, rfl, rfl, List.length_pos_iff.2 h, h64⟩
    · rw [hl z hz] at hc
      cases hc
    · rw [List.flatMap_append, hm.is]
      simpa [tellP, ptBytes] using ht

theorem made_go {base target : List UInt8} (hb : base.length = 64) (ht : target.length = 64) : ∀ (k p : Nat) (l : List Pt) (t : List UInt8) (o : Nat), p ≤ 64 → 64 ≤ p + k → Made base target o l → lastCp l → target.take o ++ t = target.take p → Made base target 64 (opsGo base target k p l t)
  | 0, p, l, t, o, h1, h2, hm, hl, he => by
    obtain rfl : p = 64 := by omega
    refine made_flat hm hl he ?_
    have := congrArg List.length he
    simp at this
    omega
  | k + 1, p, l, t, o, h1, h2, hm, hl, he => by
    have h64 : t.length ≤ 64 := by
      have := congrArg List.length he
      simp at this
      omega
    by_cases hp : p < 64
    · by_cases h4 : 4 ≤ (bestN base (target.drop p) 64).2
      · rw [opsGo_copy hp h4]
        have hle := best_le base (target.drop p) 64
        rw [List.length_drop] at hle
        rcases best_is base (target.drop p) 64 with h | ⟨b1, b2, b3, b4⟩
        · rw [h] at h4
          simp at h4
        · generalize bestN base (target.drop p) 64 = m at *
          obtain ⟨f, n⟩ := m
          dsimp at *
          have hf := made_flat hm hl he h64
          have hcp : (base.drop f).take n = (target.drop p).take n := (alikeN_take (by rw [List.length_drop]; omega) (by rw [List.length_drop]; omega)).2 (by omega)
          refine made_go hb ht k (p + n) _ [] (p + n) (by omega) (by omega) ⟨fun q hq => ?_, apart_snoc _ false _ hf.apart (fun _ e => by cases e) (fun _ => rfl), ?_⟩ (fun q hq => ?_) (by simp)
          · rcases List.mem_append.1 hq with hq | hq
            · exact hf.good q hq
            · obtain rfl := List.mem_singleton.1 hq
              exact .inl ⟨rfl, by simp only [copyP]; omega, by simp only [copyP]; omega, by simp only [copyP]; omega, rfl⟩
          · rw [List.flatMap_append, hf.is]
            simp only [List.flatMap_cons, List.flatMap_nil, List.append_nil, ptBytes, copyP, if_true, Int.toNat_natCast]
            rw [hcp, ← List.take_add]
          · rw [List.getLast?_append] at hq
            simp at hq
            subst hq
            rfl
      · rw [opsGo_tell hp h4]
        refine made_go hb ht k (p + 1) l _ o (by omega) (by omega) hm hl ?_
        rw [← List.append_assoc, he, List.take_add_one, List.getD_eq_getElem?_getD, List.getElem?_eq_getElem (by omega)]
        rfl
    · rw [opsGo_end (by omega)]
      obtain rfl : p = 64 := by omega
      exact made_flat hm hl he h64
theorem made_ops {base target : List UInt8} (hb : base.length = 64) (ht : target.length = 64) : Made base target 64 (opsN base target) :=
  made_go hb ht 64 0 [] [] 0 (by omega) (by omega) ⟨fun q h => (List.not_mem_nil h).elim, trivial, by simp⟩ (fun q h => by cases h) (by simp)

/-- What comes of parts, or the error. -/
def partE (q : Pt) : Nat := if q.cp then (if q.f < 0 ∨ q.n < 1 ∨ 64 - q.f < q.n then 4 else 0) else if q.b = [] then 3 else 0
def applyN (base : List UInt8) : List Pt → List UInt8 → Except Nat (List UInt8)
  | [], a => if a.length < 64 then .error 2 else .ok a
  | q :: r, a => if partE q ≠ 0 then .error (partE q) else if 64 < a.length + (ptBytes base q).length then .error 2 else applyN base r (a ++ ptBytes base q)

theorem good_part {q : Pt} (h : q.Good) : partE q = 0 := by
  unfold partE
  rcases h with ⟨h1, h2, h3, h4, _⟩ | ⟨h1, _, _, h2, _⟩
  · rw [if_pos h1, if_neg (by omega)]
  · rw [if_neg (by simp [h1]), if_neg (by intro e; rw [e] at h2; simp at h2)]
theorem apply_made {base : List UInt8} : ∀ (l : List Pt) (a : List UInt8), (∀ q ∈ l, q.Good) → (a ++ l.flatMap (ptBytes base)).length = 64 → applyN base l a = .ok (a ++ l.flatMap (ptBytes base))
  | [], a, _, h => by
    simp at h
    simp [applyN, h]
  | q :: r, a, hg, h => by
    unfold applyN
    have hl : a.length + (ptBytes base q).length + (r.flatMap (ptBytes base)).length = 64 := by
      rw [← h]
      simp only [List.flatMap_cons, List.length_append]
      omega
    rw [if_neg (by rw [good_part (hg q (List.mem_cons_self ..))]; simp), if_neg (by omega), apply_made r _ (fun q hq => hg q (List.mem_cons_of_mem _ hq)) (by simp only [List.length_append]; omega)]
    simp only [List.flatMap_cons, List.append_assoc]
theorem apply_ops {base target : List UInt8} (hb : base.length = 64) (ht : target.length = 64) : applyN base (opsN base target) [] = .ok target := by
  have hm := made_ops hb ht
  rw [apply_made _ _ hm.good (by rw [List.nil_append, hm.is, List.length_take]; omega), List.nil_append, hm.is, List.take_of_length_le (by omega)]

/-- How many parts of each kind, and how long. -/
theorem apart_count (base : List UInt8) : ∀ (l : List Pt) (told : Bool), (∀ q ∈ l, q.Good) → base.length = 64 → Apart told l →
    5 * (l.filter (·.cp)).length + ((l.filter (fun q => !q.cp)).map (·.b.length)).sum ≤ (l.flatMap (ptBytes base)).length + (l.filter (·.cp)).length ∧ (l.filter (fun q => !q.cp)).length + (if told then 1 else 0) ≤ (l.filter (·.cp)).length + 1
  | [], told, _, _, _ => by cases told <;> simp
  | q :: r, told, hg, hb, ha => by
    have ih := apart_count base r (!q.cp) (fun q hq => hg q (List.mem_cons_of_mem _ hq)) hb ha.2
    have h1 := ha.1
    rcases hg q (List.mem_cons_self ..) with ⟨c, h2, h3, h4, h5⟩ | ⟨c, h2, h3, h4, h5⟩
    · simp [c, ptBytes, hb] at ih ⊢
      cases told <;> simp <;> omega
    · simp [c, ptBytes] at ih h1 ⊢
      subst h1
      simp
      omega

/-- A block by itself. -/
theorem ops_self {b : List UInt8} (hb : b.length = 64) : opsN b b = [copyP 0 64] := by
  have h1 : bestN b (b.drop 0) 64 = (0, 64) := by
    refine best_found (by omega) (by omega) (fun j _ => ?_) ?_ (fun j h => by omega)
    · have := (alikeN_le (b.drop j) (b.drop 0)).2
      rw [List.length_drop] at this
      omega
    · rw [List.drop_zero, alikeN_stop (n := 64) (fun _ _ => rfl) (by omega) (by omega) (.inl hb.symm)]
      exact Nat.le_refl _
  unfold opsN
  rw [opsGo_copy (by omega) (by rw [h1]; decide), h1, opsGo_end (by decide)]
  rfl

theorem alike_none {x : UInt8} {b : List UInt8} (hx : x ∉ b) (n p : Nat) : alikeN (List.replicate n x) (b.drop p) = 0 := by
  cases n with
  | zero => rfl
  | succ n =>
    cases hb : b.drop p with
    | nil => rfl
    | cons y r =>
      unfold List.replicate alikeN
      rw [if_neg]
      intro e
      subst e
      exact hx (List.mem_of_mem_drop (by rw [hb]; exact List.mem_cons_self ..))
theorem go_none {x : UInt8} {b : List UInt8} (hb : b.length = 64) (hx : x ∉ b) : ∀ k p, p ≤ 64 → 64 ≤ p + k → opsGo (List.replicate 64 x) b k p [] (b.take p) = [tellP b]
  | 0, p, h1, h2 => by
    obtain rfl : p = 64 := by omega
    rw [List.take_of_length_le (by omega)]
    unfold opsGo flatP
    rw [if_neg (by intro e; rw [e] at hb; simp at hb)]
    rfl
  | k + 1, p, h1, h2 => by
    by_cases hp : p < 64
    · rw [opsGo_tell hp, List.getD_eq_getElem?_getD, List.getElem?_eq_getElem (by omega), Option.getD_some, List.take_append_getElem (by omega)]
      · exact go_none hb hx k (p + 1) (by omega) (by omega)
      · rw [best_none (fun j _ => by rw [List.drop_replicate]; exact alike_none hx _ _)]
        decide
    · obtain rfl : p = 64 := by omega
      rw [opsGo_end (by omega), List.take_of_length_le (by omega)]
      unfold flatP
      rw [if_neg (by intro e; rw [e] at hb; simp at hb)]
      rfl
/-- A block by one that shares nothing with it. -/
theorem ops_none {x : UInt8} {b : List UInt8} (hb : b.length = 64) (hx : x ∉ b) : opsN (List.replicate 64 x) b = [tellP b] := by
  have := go_none hb hx 64 0 (by omega) (by omega)
  rw [List.take_zero] at this
  exact this

theorem covers : ∀ (n : Nat) (l : List Nat), (∀ x, x < n → x ∈ l) → n ≤ l.length
  | 0, l, _ => Nat.zero_le _
  | n + 1, l, h => by
    have hm := h n (by omega)
    have ih := covers n (l.erase n) (fun x hx => (List.mem_erase_of_ne (by omega)).2 (h x (by omega)))
    rw [List.length_erase_of_mem hm] at ih
    have := List.length_pos_of_mem hm
    omega
theorem some_unseen {b : List UInt8} (hb : b.length = 64) : ∃ x : Nat, x < 256 ∧ ∀ c ∈ b, c.toNat ≠ x := by
  apply Classical.byContradiction
  intro h
  have := covers 256 (b.map (·.toNat)) (fun x hx => by
    apply Classical.byContradiction
    intro hn
    exact h ⟨x, hx, fun c hc e => hn (List.mem_map.2 ⟨c, hc, e⟩)⟩)
  rw [List.length_map, hb] at this
  omega
end Go.Proofs.YtnlknnhibnfhcaaDoor.De
