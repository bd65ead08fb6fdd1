/-
  merge, plain: orders as pairs of a place and an entry; what comes of them, one by one; a heap of orders.
-/
import Derived.Test.YtdfhjmodacjilaaMeP
namespace Go.Proofs.Ytdfhjmodacjilaa.Mg
open Me
set_option maxRecDepth 100000
set_option linter.unusedVariables false

/-- Of some orders, told by what they have: these entries come, in order. -/
structure Tells (S : Nat → En → Prop) (L : List En) : Prop where
  srt : Sorted L
  frm : ∀ e ∈ L, ∃ n x, S n x ∧ norm x = e ∧ ∀ n' y, S n' y → y.k = x.k → n ≤ n'
  all : ∀ n x, S n x → ∃ e ∈ L, e.k = x.k
/-- Those that come behind a key that came. -/
structure Above (k : List UInt8) (S : Nat → En → Prop) (L : List En) : Prop where
  srt : Sorted L
  abv : ∀ e ∈ L, ltB k e.k = true
  frm : ∀ e ∈ L, ∃ n x, S n x ∧ norm x = e ∧ ∀ n' y, S n' y → y.k = x.k → n ≤ n'
  all : ∀ n x, S n x → ltB k x.k = true → ∃ e ∈ L, e.k = x.k
  low : ∀ n x, S n x → ltB x.k k = false
/-- Without one of them. -/
def less1 (S : Nat → En → Prop) (n : Nat) (x : En) : Nat → En → Prop := fun m y => S m y ∧ ¬ (m = n ∧ y = x)
/-- No key twice in one order. -/
def Uniq (S : Nat → En → Prop) : Prop := ∀ n x y, S n x → S n y → x.k = y.k → x = y

theorem head_of {S : Nat → En → Prop} {L : List En} (h : Tells S L) (hu : Uniq S) {n : Nat} {x : En} (hx : S n x) (hm : ∀ n' y, S n' y → ltB y.k x.k = false ∧ (y.k = x.k → n ≤ n')) :
    ∃ L', L = norm x :: L' ∧ Above x.k (less1 S n x) L' := by
  obtain ⟨e, he, hek⟩ := h.all n x hx
  cases hL : L with
  | nil => rw [hL] at he; cases he
  | cons a r =>
    have hs := h.srt
    rw [hL] at hs he
    obtain ⟨n1, x1, h1, h2, h3⟩ := h.frm a (by rw [hL]; simp)
    have hak : a.k = x1.k := by rw [← h2, norm_k]
    have hale : ltB a.k x.k = false := by rw [hak]; exact (hm n1 x1 h1).1
    have hae : a = e := by
      rcases List.mem_cons.1 he with e0 | hr
      · exact e0.symm
      · have := sorted_head hs e hr
        rw [hek, hale] at this
        cases this
    have hkk : x1.k = x.k := by rw [← hak, hae, hek]
    have hn : n = n1 := Nat.le_antisymm ((hm n1 x1 h1).2 hkk) (h3 n x hx hkk.symm)
    subst hn
    have hxx : x1 = x := hu n x1 x h1 hx hkk
    subst hxx
    have hab : ∀ e ∈ r, ltB x1.k e.k = true := fun e he => by rw [← hak]; exact sorted_head hs e he
    refine ⟨r, by rw [h2], ⟨sorted_tail hs, hab, fun e he => ?_, fun m y hy hl => ?_, fun m y hy => (hm m y hy.1).1⟩⟩
    · obtain ⟨m, y, hy, h5, h6⟩ := h.frm e (by rw [hL]; simp [he])
      refine ⟨m, y, ⟨hy, fun hq => ?_⟩, h5, fun m' z hz hk => h6 m' z hz.1 hk⟩
      have := hab e he
      rw [← h5, norm_k, hq.2, lt_self] at this
      cases this
    · obtain ⟨e', he', hk'⟩ := h.all m y hy.1
      rw [hL] at he'
      rcases List.mem_cons.1 he' with e0 | hr
      · rw [e0, hak] at hk'
        rw [← hk', lt_self] at hl
        cases hl
      · exact ⟨e', hr, hk'⟩
theorem Above.skip {k : List UInt8} {S : Nat → En → Prop} {L : List En} (h : Above k S L) {n : Nat} {x : En} (hk : x.k = k) : Above k (less1 S n x) L := by
  refine ⟨h.srt, h.abv, fun e he => ?_, fun m y hy hl => h.all m y hy.1 hl, fun m y hy => h.low m y hy.1⟩
  obtain ⟨m, y, hy, h5, h6⟩ := h.frm e he
  refine ⟨m, y, ⟨hy, fun hq => ?_⟩, h5, fun m' z hz hk => h6 m' z hz.1 hk⟩
  have := h.abv e he
  rw [← h5, norm_k, hq.2, hk, lt_self] at this
  cases this
theorem Above.tells {k : List UInt8} {S : Nat → En → Prop} {L : List En} (h : Above k S L) (hne : ∀ n x, S n x → x.k ≠ k) : Tells S L := by
  refine ⟨h.srt, h.frm, fun n x hx => h.all n x hx ?_⟩
  cases hl : ltB k x.k with
  | true => rfl
  | false => exact absurd (lt_one (h.low n x hx) hl) (hne n x hx)
theorem Tells.nil {S : Nat → En → Prop} {L : List En} (h : Tells S L) (hn : ∀ n x, ¬ S n x) : L = [] := by
  cases L with
  | nil => rfl
  | cons a r =>
    obtain ⟨n, x, hx, _⟩ := h.frm a (by simp)
    exact absurd hx (hn n x)
theorem Tells.ext {S : Nat → En → Prop} {A B : List En} (hu : Uniq S) (hA : Tells S A) (hB : Tells S B) : A = B := by
  have key : ∀ {A B : List En}, Tells S A → Tells S B → ∀ e, e ∈ A → e ∈ B := by
    intro A B hA hB e he
    obtain ⟨n, x, hx, h1, h2⟩ := hA.frm e he
    obtain ⟨e', he', hk⟩ := hB.all n x hx
    obtain ⟨n', x', hx', h1', h2'⟩ := hB.frm e' he'
    have hkk : x'.k = x.k := by rw [← hk, ← h1', norm_k]
    have hn : n = n' := Nat.le_antisymm (h2 n' x' hx' hkk) (h2' n x hx hkk.symm)
    subst hn
    have := hu n x' x hx' hx hkk
    subst this
    rw [← h1, h1']
    exact he'
  exact sorted_ext hA.srt hB.srt (fun e => ⟨key hA hB e, key hB hA e⟩)

/-! What the document makes of orders: the oldest first, put one behind the other. -/
/-- Entries put into others. -/
def putsF (M l : List En) : List En := l.foldl putL M
/-- All orders, the newest first. -/
def allN : List (List En) → List En
  | [] => []
  | l :: r => putsF (allN r) l
theorem putsF_sorted : ∀ (l : List En) {M : List En}, Sorted M → Sorted (putsF M l)
  | [], M, h => h
  | e :: r, M, h => putsF_sorted r (M := putL M e) (sorted_put h e)
theorem allN_sorted : ∀ Ls : List (List En), Sorted (allN Ls)
  | [] => sorted_nil
  | l :: r => putsF_sorted l (allN_sorted r)
theorem mem_put {L : List En} (h : Sorted L) (e x : En) : x ∈ putL L e ↔ x = norm e ∨ (x ∈ L ∧ x.k ≠ e.k) := by
  rw [getL_mem (sorted_put h e), get_put h]
  by_cases hk : e.k = x.k
  · rw [if_pos hk]
    constructor
    · intro h1
      exact .inl (Option.some.inj h1).symm
    · rintro (rfl | ⟨_, h2⟩)
      · rfl
      · exact absurd hk.symm h2
  · rw [if_neg hk, ← getL_mem h]
    constructor
    · intro h1
      exact .inr ⟨h1, fun h2 => hk h2.symm⟩
    · rintro (rfl | ⟨h1, _⟩)
      · exact absurd (norm_k e).symm hk
      · exact h1
theorem mem_putsF : ∀ (l : List En) {M : List En}, Sorted M → Sorted l → ∀ x, x ∈ putsF M l ↔ (∃ e ∈ l, norm e = x) ∨ (x ∈ M ∧ ∀ e ∈ l, e.k ≠ x.k)
  | [], M, _, _, x => by simp [putsF]
  | e :: r, M, hM, hl, x => by
    have ih := mem_putsF r (sorted_put hM e) (sorted_tail hl) x
    have hh := sorted_head hl
    show x ∈ putsF (putL M e) r ↔ _
    rw [ih, mem_put hM]
    constructor
    · rintro (⟨y, hy, rfl⟩ | ⟨rfl | ⟨h1, h2⟩, h3⟩)
      · exact .inl ⟨y, by simp [hy], rfl⟩
      · exact .inl ⟨e, by simp, rfl⟩
      · refine .inr ⟨h1, fun y hy => ?_⟩
        rcases List.mem_cons.1 hy with rfl | hy
        · exact fun h => h2 h.symm
        · exact h3 y hy
    · rintro (⟨y, hy, rfl⟩ | ⟨h1, h2⟩)
      · rcases List.mem_cons.1 hy with rfl | hy
        · refine .inr ⟨.inl rfl, fun z hz => ?_⟩
          rw [norm_k]
          exact fun h => lt_ne (hh z hz) h.symm
        · exact .inl ⟨y, hy, rfl⟩
      · exact .inr ⟨.inr ⟨h1, fun h => h2 e (by simp) h.symm⟩, fun y hy => h2 y (by simp [hy])⟩
/-- What orders have, the newest one is number s. -/
def hasL (s : Nat) (Ls : List (List En)) : Nat → En → Prop := fun n x => ∃ i l, Ls[i]? = some l ∧ n = s + i ∧ x ∈ l
theorem hasL_nil (s n : Nat) (x : En) : ¬ hasL s [] n x := by rintro ⟨i, l, h, _⟩; simp at h
theorem hasL_cons (s : Nat) (l : List En) (r : List (List En)) (n : Nat) (x : En) : hasL s (l :: r) n x ↔ (n = s ∧ x ∈ l) ∨ hasL (s + 1) r n x := by
  constructor
  · rintro ⟨i, l', h, h1, h2⟩
    cases i with
    | zero => simp at h; subst h; exact .inl ⟨h1, h2⟩
    | succ i => exact .inr ⟨i, l', by simpa using h, by omega, h2⟩
  · rintro (⟨h1, h2⟩ | ⟨i, l', h, h1, h2⟩)
    · exact ⟨0, l, rfl, by omega, h2⟩
    · exact ⟨i + 1, l', by simpa using h, by omega, h2⟩
theorem hasL_from {s : Nat} {Ls : List (List En)} {n : Nat} {x : En} (h : hasL s Ls n x) : s ≤ n := by
  obtain ⟨i, _, _, h, _⟩ := h
  omega
theorem sorted_key : ∀ {L : List En}, Sorted L → ∀ {x y : En}, x ∈ L → y ∈ L → x.k = y.k → x = y := by
  intro L h x y hx hy hk
  have h1 := (getL_mem h x).1 hx
  have h2 := (getL_mem h y).1 hy
  rw [hk, h2] at h1
  exact (Option.some.inj h1).symm
theorem hasL_uniq {s : Nat} {Ls : List (List En)} (h : ∀ l ∈ Ls, Sorted l) : Uniq (hasL s Ls) := by
  rintro n x y ⟨i, l, h1, h2, h3⟩ ⟨i', l', h1', h2', h3'⟩ hk
  have : i = i' := by omega
  subst this
  rw [h1] at h1'
  cases h1'
  exact sorted_key (h l (List.mem_of_getElem? h1)) h3 h3' hk
theorem allN_tells : ∀ (Ls : List (List En)) (s : Nat), (∀ l ∈ Ls, Sorted l) → Tells (hasL s Ls) (allN Ls)
  | [], s, _ => ⟨sorted_nil, fun e he => (by cases he), fun n x h => absurd h (hasL_nil s n x)⟩
  | l :: r, s, h => by
    have hl := h l (by simp)
    have ih := allN_tells r (s + 1) (fun q hq => h q (by simp [hq]))
    have hM := allN_sorted r
    refine ⟨allN_sorted _, fun e he => ?_, fun n x hx => ?_⟩
    · rcases (mem_putsF l hM hl e).1 he with ⟨x, hx, rfl⟩ | ⟨h1, h2⟩
      · refine ⟨s, x, (hasL_cons _ _ _ _ _).2 (.inl ⟨rfl, hx⟩), rfl, fun n' y hy _ => hasL_from hy⟩
      · obtain ⟨n, x, h3, h4, h5⟩ := ih.frm e h1
        refine ⟨n, x, (hasL_cons _ _ _ _ _).2 (.inr h3), h4, fun n' y hy hk => ?_⟩
        rcases (hasL_cons _ _ _ _ _).1 hy with ⟨_, hy⟩ | hy
        · exact absurd (by rw [hk, ← h4, norm_k]) (h2 y hy)
        · exact h5 n' y hy hk
    · rcases (hasL_cons _ _ _ _ _).1 hx with ⟨_, hx⟩ | hx
      · exact ⟨norm x, (mem_putsF l hM hl _).2 (.inl ⟨x, hx, rfl⟩), norm_k x⟩
      · obtain ⟨e, he, hk⟩ := ih.all n x hx
        by_cases hex : ∃ y ∈ l, y.k = e.k
        · obtain ⟨y, hy, hyk⟩ := hex
          exact ⟨norm y, (mem_putsF l hM hl _).2 (.inl ⟨y, hy, rfl⟩), by rw [norm_k, hyk, hk]⟩
        · exact ⟨e, (mem_putsF l hM hl _).2 (.inr ⟨he, fun y hy hyk => hex ⟨y, hy, hyk⟩⟩), hk⟩
end Go.Proofs.Ytdfhjmodacjilaa.Mg
