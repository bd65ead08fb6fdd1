import Derived.Test.YtljlfdhjolcnaaaGreatGaM
import Derived.Great.BuildSlice
/-
  merge, plain: orders as pairs of a place and an entry; what comes of them, one by one; a heap of orders.
-/
namespace Go.Proofs.YtljlfdhjolcnaaaGreat.Mg
open Me
set_option maxRecDepth 100000
set_option linter.unusedVariables false

/-- Of some orders, told by what they have: these entries come, in order. -/
structure Tells (S : Nat → En → Prop) (L : List En) : Prop where
  srt : Sorted L
  frm : ∀ e ∈ L, ∃ n x, S n x ∧ norm x = e ∧ ∀ n' y, S n' y → y.k = x.k → n ≤ n'
  all : ∀ n x, S n x → ∃ e ∈ L, e.k = x.k
/-- Those that come behind a key that came. -/
structure Above (k : List UInt8) (S : Nat → En → Prop) (L : List En) : Prop where
  srt : Sorted L
  abv : ∀ e ∈ L, ltB k e.k = true
  frm : ∀ e ∈ L, ∃ n x, S n x ∧ norm x = e ∧ ∀ n' y, S n' y → y.k = x.k → n ≤ n'
  all : ∀ n x, S n x → ltB k x.k = true → ∃ e ∈ L, e.k = x.k
  low : ∀ n x, S n x → ltB x.k k = false
/-- Without one of them. -/
def less1 (S : Nat → En → Prop) (n : Nat) (x : En) : Nat → En → Prop := fun m y => S m y ∧ ¬ (m = n ∧ y = x)
/-- No key twice in one order. -/
def Uniq (S : Nat → En → Prop) : Prop := ∀ n x y, S n x → S n y → x.k = y.k → x = y

theorem head_of {S : Nat → En → Prop} {L : List En} (h : Tells S L) (hu : Uniq S) {n : Nat} {x : En} (hx : S n x) (hm : ∀ n' y, S n' y → ltB y.k x.k = false ∧ (y.k = x.k → n ≤ n')) :
    ∃ L', L = norm x :: L' ∧ Above x.k (less1 S n x) L' := by
  obtain ⟨e, he, hek⟩ := h.all n x hx
  cases hL : L with
  | nil => rw [hL] at he; cases he
  | cons a r =>
    have hs := h.srt
    rw [hL] at hs he
    obtain ⟨n1, x1, h1, h2, h3⟩ := h.frm a (by rw [hL]; simp)
    have hak : a.k = x1.k := by rw [← h2, norm_k]
    have hale : ltB a.k x.k = false := by rw [hak]; exact (hm n1 x1 h1).1
    have hae : a = e := by
      rcases List.mem_cons.1 he with e0 | hr
      · exact e0.symm
      · have := sorted_head hs e hr
        rw [hek, hale] at this
        cases this
    have hkk : x1.k = x.k := by rw [← hak, hae, hek]
    have hn : n = n1 := Nat.le_antisymm ((hm n1 x1 h1).2 hkk) (h3 n x hx hkk.symm)
    subst hn
    have hxx : x1 = x := hu n x1 x h1 hx hkk
    subst hxx
    have hab : ∀ e ∈ r, ltB x1.k e.k = true := fun e he => by rw [← hak]; exact sorted_head hs e he
    refine ⟨r, by rw [h2], ⟨sorted_tail hs, hab, fun e he => ?_, fun m y hy hl => ?_, fun m y hy => (hm m y hy.1).1⟩⟩
    · obtain ⟨m, y, hy, h5, h6⟩ := h.frm e (by rw [hL]; simp [he])
      refine ⟨m, y, ⟨hy, fun hq => ?_⟩, h5, fun m' z hz hk => h6 m' z hz.1 hk⟩
      have := hab e he
      rw [← h5, norm_k, hq.2, lt_self] at this
      cases this
    · obtain ⟨e', he', hk'⟩ := h.all m y hy.1
      rw [hL] at he'
      rcases List.mem_cons.1 he' with e0 | hr
      · rw [e0, hak] at hk'
        rw [← hk', lt_self] at hl
        cases hl
      · exact ⟨e', hr, hk'⟩
theorem Above.skip {k : List UInt8} {S : Nat → En → Prop} {L : List En} (h : Above k S L) {n : Nat} {x : En} (hk : x.k = k) : Above k (less1 S n x) L := by
  refine ⟨h.srt, h.abv, fun e he => ?_, fun m y hy hl => h.all m y hy.1 hl, fun m y hy => h.low m y hy.1⟩
  obtain ⟨m, y, hy, h5, h6⟩ := h.frm e he
  refine ⟨m, y, ⟨hy, fun hq => ?_⟩, h5, fun m' z hz hk => h6 m' z hz.1 hk⟩
  have := h.abv e he
  rw [← h5, norm_k, hq.2, hk, lt_self] at this
  cases this
theorem Above.tells {k : List UInt8} {S : Nat → En → Prop} {L : List En} (h : Above k S L) (hne : ∀ n x, S n x → x.k ≠ k) : Tells S L := by
  refine ⟨h.srt, h.frm, fun n x hx => h.all n x hx ?_⟩
  cases hl : ltB k x.k with
  | true => rfl
  | false => exact absurd (lt_one (h.low n x hx) hl) (hne n x hx)
theorem Tells.nil {S : Nat → En → Prop} {L : List En} (h : Tells S L) (hn : ∀ n x, ¬ S n x) : L = [] := by
  cases L with
  | nil => rfl
  | cons a r =>
    obtain ⟨n, x, hx, _⟩ := h.frm a (by simp)
    exact absurd hx (hn n x)
theorem Tells.ext {S : Nat → En → Prop} {A B : List En} (hu : Uniq S) (hA : Tells S A) (hB : Tells S B) : A = B := by
  have key : ∀ {A B : List En}, Tells S A → Tells S B → ∀ e, e ∈ A → e ∈ B := by
    intro A B hA hB e he
    obtain ⟨n, x, hx, h1, h2⟩ := hA.frm e he
    obtain ⟨e', he', hk⟩ := hB.all n x hx
    obtain ⟨n', x', hx', h1', h2'⟩ := hB.frm e' he'
    have hkk : x'.k = x.k := by rw [← hk, ← h1', norm_k]
    have hn : n = n' := Nat.le_antisymm (h2 n' x' hx' hkk) (h2' n x hx hkk.symm)
    subst hn
    have := hu n x' x hx' hx hkk
    subst this
    rw [← h1, h1']
    exact he'
  exact sorted_ext hA.srt hB.srt (fun e => ⟨key hA hB e, key hB hA e⟩)

/-! What the document makes of orders: the oldest first, put one behind the other. -/
/-- Entries put into others. -/
def putsF (M l : List En) : List En := l.foldl putL M
/-- All orders, the newest first. -/
def allN : List (List En) → List En
  | [] => []
  | l :: r => putsF (allN r) l
theorem putsF_sorted : ∀ (l : List En) {M : List En}, Sorted M → Sorted (putsF M l)
  | [], M, h => h
  | e :: r, M, h => putsF_sorted r (M := putL M e) (sorted_put h e)
theorem allN_sorted : ∀ Ls : List (List En), Sorted (allN Ls)
  | [] => sorted_nil
  | l :: r => putsF_sorted l (allN_sorted r)
theorem mem_put {L : List En} (h : Sorted L) (e x : En) : x ∈ putL L e ↔ x = norm e ∨ (x ∈ L ∧ x.k ≠ e.k) := by
  rw [getL_mem (sorted_put h e), get_put h]
  by_cases hk : e.k = x.k
  · rw [if_pos hk]
    constructor
    · intro h1
      exact .inl (Option.some.inj h1).symm
    · rintro (rfl | ⟨_, h2⟩)
      · rfl
      · exact absurd hk.symm h2
  · rw [if_neg hk, ← getL_mem h]
    constructor
    · intro h1
      exact .inr ⟨h1, fun h2 => hk h2.symm⟩
    · rintro (rfl | ⟨h1, _⟩)
      · exact absurd (norm_k e).symm hk
      · exact h1
theorem mem_putsF : ∀ (l : List En) {M : List En}, Sorted M → Sorted l → ∀ x, x ∈ putsF M l ↔ (∃ e ∈ l, norm e = x) ∨ (x ∈ M ∧ ∀ e ∈ l, e.k ≠ x.k)
  | [], M, _, _, x => by simp [putsF]
  | e :: r, M, hM, hl, x => by
    have ih := mem_putsF r (sorted_put hM e) (sorted_tail hl) x
    have hh := sorted_head hl
    show x ∈ putsF (putL M e) r ↔ _
    rw [ih, mem_put hM]
    constructor
    · rintro (⟨y, hy, rfl⟩ | ⟨rfl | ⟨h1, h2⟩, h3⟩)
      · exact .inl ⟨y, by simp [hy], rfl⟩
      · exact .inl ⟨e, by simp, rfl⟩
      · refine .inr ⟨h1, fun y hy => ?_⟩
        rcases List.mem_cons.1 hy with rfl | hy
        · exact fun h => h2 h.symm
        · exact h3 y hy
    · rintro (⟨y, hy, rfl⟩ | ⟨h1, h2⟩)
      · rcases List.mem_cons.1 hy with rfl | hy
        · refine .inr ⟨.inl rfl, fun z hz => ?_⟩
          rw [norm_k]
          exact fun h => lt_ne (hh z hz) h.symm
        · exact .inl ⟨y, hy, rfl⟩
      · exact .inr ⟨.inr ⟨h1, fun h => h2 e (by simp) h.symm⟩, fun y hy => h2 y (by simp [hy])⟩
/-- What orders have, the newest one is number s. -/
def hasL (s : Nat) (Ls : List (List En)) : Nat → En → Prop := fun n x => ∃ i l, Ls[i]? = some l ∧ n = s + i ∧ x ∈ l
theorem hasL_nil (s n : Nat) (x : En) : ¬ hasL s [] n x := by rintro ⟨i, l, h, _⟩; simp at h
theorem hasL_cons (s : Nat) (l : List En) (r : List (List En)) (n : Nat) (x : En) : hasL s (l :: r) n x ↔ (n = s ∧ x ∈ l) ∨ hasL (s + 1) r n x := by
  constructor
  · rintro ⟨i, l', h, h1, h2⟩
    cases i with
    | zero => simp at h; subst h; exact .inl ⟨h1, h2⟩
    | succ i => exact .inr ⟨i, l', by simpa using h, by omega, h2⟩
  · rintro (⟨h1, h2⟩ | ⟨i, l', h, h1, h2⟩)
    · exact ⟨0, l, rfl, by omega, h2⟩
    · exact ⟨i + 1, l', by simpa using h, by omega, h2⟩
theorem hasL_from {s : Nat} {Ls : List (List En)} {n : Nat} {x : En} (h : hasL s Ls n x) : s ≤ n := by
  obtain ⟨i, _, _, h, _⟩ := h
  omega
theorem sorted_key : ∀ {L : List En}, Sorted L → ∀ {x y : En}, x ∈ L → y ∈ L → x.k = y.k → x = y := by
  intro L h x y hx hy hk
  have h1 := (getL_mem h x).1 hx
  have h2 := (getL_mem h y).1 hy
  rw [hk, h2] at h1
  exact (Option.some.inj h1).symm
theorem allN_tells : ∀ (Ls : List (List En)) (s : Nat), (∀ l ∈ Ls, Sorted l) → Tells (hasL s Ls) (allN Ls)
  | [], s, _ => ⟨sorted_nil, fun e he => (by cases he), fun n x h => absurd h (hasL_nil s n x)⟩
  | l :: r, s, h => by
    have hl := h l (by simp)
    have ih := allN_tells r (s + 1) (fun q hq => h q (by simp [hq]))
    have hM := allN_sorted r
    refine ⟨allN_sorted _, fun e he => ?_, fun n x hx => ?_⟩
    · rcases (mem_putsF l hM hl e).1 he with ⟨x, hx, rfl⟩ | ⟨h1, h2⟩
      · refine ⟨s, x, (hasL_cons _ _ _ _ _).2 (.inl ⟨rfl, hx⟩), rfl, fun n' y hy _ => hasL_from hy⟩
      · obtain ⟨n, x, h3, h4, h5⟩ := ih.frm e h1
        refine ⟨n, x, (hasL_cons _ _ _ _ _).2 (.inr h3), h4, fun n' y hy hk => ?_⟩
        rcases (hasL_cons _ _ _ _ _).1 hy with ⟨_, hy⟩ | hy
        · exact absurd (by rw [hk, ← h4, norm_k]) (h2 y hy)
        · exact h5 n' y hy hk
    · rcases (hasL_cons _ _ _ _ _).1 hx with ⟨_, hx⟩ | hx
      · exact ⟨norm x, (mem_putsF l hM hl _).2 (.inl ⟨x, hx, rfl⟩), norm_k x⟩
      · obtain ⟨e, he, hk⟩ := ih.all n x hx
        by_cases hex : ∃ y ∈ l, y.k = e.k
        · obtain ⟨y, hy, hyk⟩ := hex
          exact ⟨norm y, (mem_putsF l hM hl _).2 (.inl ⟨y, hy, rfl⟩), by rw [norm_k, hyk, hk]⟩
        · exact ⟨e, (mem_putsF l hM hl _).2 (.inr ⟨he, fun y hy hyk => hex ⟨y, hy, hyk⟩⟩), hk⟩
end Go.Proofs.YtljlfdhjolcnaaaGreat.Mg

/-
  merge, plain: a heap of orders: what is left of each, with its place; down, up, the first one taken off.
-/
namespace Go.Proofs.YtljlfdhjolcnaaaGreat.Mg
open Me
set_option maxRecDepth 100000
set_option linter.unusedVariables false

/-- What is left of an order: its block, its slice, its place, its entries. -/
structure Od where
  p : Nat
  v : Value
  n : Nat
  l : List En
/-- Its first key. -/
def hk (o : Od) : List UInt8 := match o.l with
  | e :: _ => e.k
  | [] => []
/-- Whether one is ahead of another one. -/
def lessO (a b : Od) : Bool := if hk a == hk b then decide (a.n < b.n) else ltB (hk a) (hk b)
theorem less_not {a b : Od} (h : lessO a b = true) : lessO b a = false := by
  unfold lessO at *
  by_cases hq : hk a = hk b
  · simp [hq] at h ⊢
    omega
  · have hq' : ¬ hk b = hk a := fun h => hq h.symm
    simp [hq] at h
    simp [hq']
    exact lt_asymm h
/-- Not behind: transitive. -/
theorem le_trans' {a b c : Od} (h1 : lessO b a = false) (h2 : lessO c b = false) : lessO c a = false := by
  unfold lessO at *
  by_cases hab : hk a = hk b
  · by_cases hbc : hk b = hk c
    · simp [hab, hbc] at h1 h2 ⊢
      omega
    · have hcb : ¬ hk c = hk b := fun h => hbc h.symm
      simp [hcb] at h2
      simp [hab, hcb]
      exact h2
  · have hba : ¬ hk b = hk a := fun h => hab h.symm
    simp [hba] at h1
    by_cases hbc : hk b = hk c
    · have hca : ¬ hk c = hk a := by rw [← hbc]; exact hba
      simp [hca]
      rw [← hbc]
      exact h1
    · have hcb : ¬ hk c = hk b := fun h => hbc h.symm
      simp [hcb] at h2
      have hlt : ltB (hk a) (hk b) = true := by
        cases h : ltB (hk a) (hk b) with
        | true => rfl
        | false => exact absurd (lt_one h h1) hab
      have hlt2 : ltB (hk a) (hk c) = true := lt_le hlt h2
      have hca : ¬ hk c = hk a := fun h => lt_ne hlt2 h.symm
      simp [hca]
      exact lt_asymm hlt2
theorem less_self (a : Od) : lessO a a = false := by simp [lessO]

/-- Two of them change places. -/
def swapL (H : List Od) (i j : Nat) : List Od := match H[i]?, H[j]? with
  | some a, some b => (H.set i b).set j a
  | _, _ => H
theorem swap_len (H : List Od) (i j : Nat) : (swapL H i j).length = H.length := by
  unfold swapL
  split <;> simp
theorem swap_at {H : List Od} {i j : Nat} (hi : i < H.length) (hj : j < H.length) (k : Nat) : (swapL H i j)[k]? = if k = j then H[i]? else if k = i then H[j]? else H[k]? := by
  obtain ⟨a, ha⟩ : ∃ a, H[i]? = some a := ⟨_, List.getElem?_eq_getElem hi⟩
  obtain ⟨b, hb⟩ : ∃ b, H[j]? = some b := ⟨_, List.getElem?_eq_getElem hj⟩
  unfold swapL
  simp only [ha, hb]
  rw [List.getElem?_set]
  by_cases h1 : j = k
  · subst h1
    rw [if_pos rfl, if_pos rfl, if_pos (by simpa using hj)]
  · rw [if_neg h1, if_neg (fun h => h1 h.symm), List.getElem?_set]
    by_cases h2 : i = k
    · subst h2
      rw [if_pos rfl, if_pos rfl, if_pos hi]
    · rw [if_neg h2, if_neg (fun h => h2 h.symm)]
theorem swap_perm (H : List Od) (i j : Nat) : (swapL H i j).Perm H := by
  unfold swapL
  split
  · rename_i a b ha hb
    obtain ⟨hi, rfl⟩ := List.getElem?_eq_some_iff.1 ha
    obtain ⟨hj, rfl⟩ := List.getElem?_eq_some_iff.1 hb
    exact List.set_set_perm hi hj
  · exact List.Perm.refl _

/-- A heap below n, of those whose parent is lo or behind it. -/
def HF (H : List Od) (lo n : Nat) : Prop := ∀ j a b, 0 < j → j < n → lo ≤ (j - 1) / 2 → H[(j - 1) / 2]? = some a → H[j]? = some b → lessO b a = false
/-- The same, but for one place and those below it. -/
structure Dn (H : List Od) (lo i n : Nat) : Prop where
  a : ∀ j a b, 0 < j → j < n → lo ≤ (j - 1) / 2 → (j - 1) / 2 ≠ i → H[(j - 1) / 2]? = some a → H[j]? = some b → lessO b a = false
  b : ∀ j a b, 0 < i → 0 < j → j < n → (j - 1) / 2 = i → lo ≤ (i - 1) / 2 → H[(i - 1) / 2]? = some a → H[j]? = some b → lessO b a = false
theorem Dn.begin {H : List Od} {i n : Nat} (h : HF H (i + 1) n) : Dn H i i n :=
  ⟨fun j a b h0 h1 h2 h3 ha hb => h j a b h0 h1 (by omega) ha hb, fun j a b h0 _ _ _ h4 => by omega⟩
/-- Nothing below is ahead of it. -/
theorem Dn.done {H : List Od} {lo i n : Nat} (h : Dn H lo i n) (hc : ∀ j a b, 0 < j → j < n → (j - 1) / 2 = i → H[i]? = some a → H[j]? = some b → lessO b a = false) : HF H lo n := by
  intro j a b h0 h1 h2 ha hb
  by_cases hi : (j - 1) / 2 = i
  · rw [hi] at ha
    exact hc j a b h0 h1 hi ha hb
  · exact h.a j a b h0 h1 h2 hi ha hb
/-- The lesser one of those below goes up. -/
theorem Dn.step {H : List Od} {lo i j n : Nat} (h : Dn H lo i n) (hn : n ≤ H.length) (hlo : lo ≤ i) (hj0 : 0 < j) (hj : j < n) (hp : (j - 1) / 2 = i) {x y : Od} (hx : H[i]? = some x) (hy : H[j]? = some y) (hl : lessO y x = true)
    (hm : ∀ t b, 0 < t → t < n → (t - 1) / 2 = i → H[t]? = some b → lessO b y = false) : Dn (swapL H i j) lo j n := by
  have hil : i < H.length := (List.getElem?_eq_some_iff.1 hx).1
  have hjl : j < H.length := by omega
  have hij : i < j := by omega
  constructor
  · intro t a b h0 h1 h2 h3 ha hb
    rw [swap_at hil hjl] at ha hb
    rw [if_neg h3] at ha
    by_cases htj : t = j
    · subst htj
      rw [if_pos rfl, hx] at hb
      rw [if_pos hp, hy] at ha
      cases ha; cases hb
      exact less_not hl
    · rw [if_neg htj] at hb
      by_cases hpi : (t - 1) / 2 = i
      · rw [if_pos hpi, hy] at ha
        rw [if_neg (by omega)] at hb
        cases ha
        exact hm t b h0 h1 hpi hb
      · rw [if_neg hpi] at ha
        by_cases hti : t = i
        · subst hti
          rw [if_pos rfl, hy] at hb
          cases hb
          exact h.b j a y (by omega) hj0 hj hp h2 ha hy
        · rw [if_neg hti] at hb
          exact h.a t a b h0 h1 h2 hpi ha hb
  · intro t a b h0 ht0 ht1 htp h4 ha hb
    rw [hp] at ha h4
    rw [swap_at hil hjl] at ha hb
    rw [if_neg (by omega), if_pos rfl, hy] at ha
    rw [if_neg (by omega), if_neg (by omega)] at hb
    cases ha
    exact h.a t y b ht0 ht1 (by omega) (by omega) (by rw [htp]; exact hy) hb
/-- The first one is behind none. -/
theorem HF.min {H : List Od} {n : Nat} (h : HF H 0 n) {o : Od} (ho : H[0]? = some o) : ∀ j b, j < n → n ≤ H.length → H[j]? = some b → lessO b o = false := by
  intro j
  induction j using Nat.strongRecOn with
  | _ j ih =>
    intro b hj hn hb
    by_cases h0 : j = 0
    · subst h0
      rw [ho] at hb
      cases hb
      exact less_self _
    · obtain ⟨a, ha⟩ : ∃ a, H[(j - 1) / 2]? = some a := ⟨_, List.getElem?_eq_getElem (by omega)⟩
      exact le_trans' (ih ((j - 1) / 2) (by omega) a (by omega) hn ha) (h j a b (by omega) hj (Nat.zero_le _) ha hb)
/-- A heap, but for one place and those above it. -/
structure Up (H : List Od) (j : Nat) : Prop where
  a : ∀ t a b, 0 < t → t < H.length → t ≠ j → H[(t - 1) / 2]? = some a → H[t]? = some b → lessO b a = false
  b : ∀ t a b, 0 < j → 0 < t → t < H.length → (t - 1) / 2 = j → H[(j - 1) / 2]? = some a → H[t]? = some b → lessO b a = false
theorem Up.begin {H : List Od} (h : HF H 0 H.length) (o : Od) : Up (H ++ [o]) H.length := by
  constructor
  · intro t a b h0 h1 h2 ha hb
    rw [List.length_append, List.length_singleton] at h1
    rw [List.getElem?_append_left (by omega)] at ha hb
    exact h t a b h0 (by omega) (Nat.zero_le _) ha hb
  · intro t a b _ h0 h1 h2
    rw [List.length_append, List.length_singleton] at h1
    omega
theorem Up.top {H : List Od} (h : Up H 0) : HF H 0 H.length := fun t a b h0 h1 _ ha hb => h.a t a b h0 h1 (by omega) ha hb
theorem Up.done {H : List Od} {j : Nat} (h : Up H j) {x y : Od} (hx : H[(j - 1) / 2]? = some x) (hy : H[j]? = some y) (hl : lessO y x = false) : HF H 0 H.length := by
  intro t a b h0 h1 _ ha hb
  by_cases htj : t = j
  · subst htj
    rw [hx] at ha
    rw [hy] at hb
    cases ha; cases hb
    exact hl
  · exact h.a t a b h0 h1 htj ha hb
theorem Up.step {H : List Od} {j : Nat} (h : Up H j) (hj0 : 0 < j) {x y : Od} (hx : H[(j - 1) / 2]? = some x) (hy : H[j]? = some y) (hl : lessO y x = true) : Up (swapL H ((j - 1) / 2) j) ((j - 1) / 2) := by
  have hil : (j - 1) / 2 < H.length := (List.getElem?_eq_some_iff.1 hx).1
  have hjl : j < H.length := (List.getElem?_eq_some_iff.1 hy).1
  have hle := less_not hl
  constructor
  · intro t a b h0 h1 h2 ha hb
    rw [swap_len] at h1
    rw [swap_at hil hjl] at ha hb
    by_cases htj : t = j
    · subst htj
      rw [if_pos rfl, hx] at hb
      rw [if_neg (by omega), if_pos rfl, hy] at ha
      cases ha; cases hb
      exact hle
    · rw [if_neg htj, if_neg h2] at hb
      by_cases hpi : (t - 1) / 2 = (j - 1) / 2
      · rw [hpi, if_neg (by omega), if_pos rfl, hy] at ha
        cases ha
        exact le_trans' hle (h.a t x b h0 h1 htj (by rw [hpi]; exact hx) hb)
      · by_cases hpj : (t - 1) / 2 = j
        · rw [if_pos hpj, hx] at ha
          cases ha
          exact h.b t x b hj0 h0 h1 hpj hx hb
        · rw [if_neg hpj, if_neg hpi] at ha
          exact h.a t a b h0 h1 htj ha hb
  · intro t a b h0 ht0 ht1 htp ha hb
    rw [swap_len] at ht1
    rw [swap_at hil hjl] at ha hb
    rw [if_neg (by omega), if_neg (by omega)] at ha
    have hax := h.a ((j - 1) / 2) a x h0 hil (by omega) ha hx
    by_cases htj : t = j
    · subst htj
      rw [if_pos rfl, hx] at hb
      cases hb
      exact hax
    · rw [if_neg htj, if_neg (by omega)] at hb
      exact le_trans' hax (h.a t x b ht0 ht1 htj (by rw [htp]; exact hx) hb)

/-- What orders have. -/
def hasO (H : List Od) : Nat → En → Prop := fun n x => ∃ o ∈ H, o.n = n ∧ x ∈ o.l
/-- Orders that are none twice, each in order, none without an entry. -/
structure Good (H : List Od) : Prop where
  nd : (H.map (·.n)).Nodup
  srt : ∀ o ∈ H, Sorted o.l
  ne : ∀ o ∈ H, o.l ≠ []
theorem Good.perm {H H' : List Od} (h : Good H) (hp : H'.Perm H) : Good H' :=
  ⟨(hp.map _).nodup_iff.2 h.nd, fun o ho => h.srt o (hp.mem_iff.1 ho), fun o ho => h.ne o (hp.mem_iff.1 ho)⟩
theorem Good.uniq {H : List Od} (h : Good H) : Uniq (hasO H) := by
  rintro n x y ⟨o, ho, hn, hx⟩ ⟨o', ho', hn', hy⟩ hk
  have : o = o' := by
    obtain ⟨i, hi, rfl⟩ := List.getElem_of_mem ho
    obtain ⟨j, hj, rfl⟩ := List.getElem_of_mem ho'
    have hij : i = j := by
      have h1 := h.nd
      rw [List.nodup_iff_pairwise_ne, List.pairwise_iff_getElem] at h1
      rcases Nat.lt_trichotomy i j with hl | he | hl
      · have h2 := h1 i j (by simpa using hi) (by simpa using hj) hl
        rw [List.getElem_map, List.getElem_map, hn, hn'] at h2
        exact absurd rfl h2
      · exact he
      · have h2 := h1 j i (by simpa using hj) (by simpa using hi) hl
        rw [List.getElem_map, List.getElem_map, hn, hn'] at h2
        exact absurd rfl h2
    subst hij
    rfl
  subst this
  exact sorted_key (h.srt o ho) hx hy hk
theorem has_perm {H H' : List Od} (hp : H'.Perm H) : hasO H' = hasO H := by
  funext n x
  apply propext
  constructor
  · rintro ⟨o, ho, h⟩
    exact ⟨o, hp.mem_iff.1 ho, h⟩
  · rintro ⟨o, ho, h⟩
    exact ⟨o, hp.mem_iff.2 ho, h⟩
/-- How many entries are left. -/
def leftO (H : List Od) : Nat := (H.map (fun o => o.l.length)).sum
theorem left_perm {H H' : List Od} (hp : H'.Perm H) : leftO H' = leftO H := (hp.map _).sum_nat

/-- Behind the first entry of the first order taken off. -/
theorem took_has {H K : List Od} {o o' : Od} {x : En} {r : List En} (hg : Good (o :: H)) (hl : o.l = x :: r) (hn : o'.n = o.n) (hr : o'.l = r) (hK : K.Perm (if r = [] then H else o' :: H)) :
    hasO K = less1 (hasO (o :: H)) o.n x ∧ Good K ∧ leftO K + 1 = leftO (o :: H) := by
  have hnd := hg.nd
  rw [List.map_cons, List.nodup_cons] at hnd
  have hso := hg.srt o (by simp)
  rw [hl] at hso
  refine ⟨?_, ?_, ?_⟩
  · rw [has_perm hK]
    funext m y
    apply propext
    unfold less1
    constructor
    · intro hh
      have : (m = o.n ∧ y ∈ r) ∨ hasO H m y := by
        split at hh
        · exact .inr hh
        · obtain ⟨q, hq, h1, h2⟩ := hh
          rcases List.mem_cons.1 hq with rfl | hq
          · exact .inl ⟨by omega, by rw [← hr]; exact h2⟩
          · exact .inr ⟨q, hq, h1, h2⟩
      rcases this with ⟨h1, h2⟩ | ⟨q, hq, h1, h2⟩
      · refine ⟨⟨o, by simp, h1.symm, by rw [hl]; simp [h2]⟩, fun h => ?_⟩
        have := sorted_head hso y h2
        rw [h.2, lt_self] at this
        cases this
      · refine ⟨⟨q, by simp [hq], h1, h2⟩, fun h => ?_⟩
        exact hnd.1 (List.mem_map.2 ⟨q, hq, by rw [h1, h.1]⟩)
    · rintro ⟨⟨q, hq, h1, h2⟩, h3⟩
      rcases List.mem_cons.1 hq with rfl | hq
      · have hyr : y ∈ r := by
          rw [hl] at h2
          rcases List.mem_cons.1 h2 with rfl | h
          · exact absurd ⟨h1.symm, rfl⟩ h3
          · exact h
        rw [if_neg (fun h => by rw [h] at hyr; cases hyr)]
        exact ⟨o', by simp, by omega, by rw [hr]; exact hyr⟩
      · split
        · exact ⟨q, hq, h1, h2⟩
        · exact ⟨q, by simp [hq], h1, h2⟩
  · refine Good.perm ?_ hK
    split
    · exact ⟨hnd.2, fun q hq => hg.srt q (by simp [hq]), fun q hq => hg.ne q (by simp [hq])⟩
    · rename_i hr0
      refine ⟨by rw [List.map_cons, hn, List.nodup_cons]; exact hnd, fun q hq => ?_, fun q hq => ?_⟩
      · rcases List.mem_cons.1 hq with rfl | hq
        · rw [hr]; exact sorted_tail hso
        · exact hg.srt q (by simp [hq])
      · rcases List.mem_cons.1 hq with rfl | hq
        · rw [hr]; exact hr0
        · exact hg.ne q (by simp [hq])
  · rw [left_perm hK]
    unfold leftO
    split
    · rename_i hr0
      simp [hl, hr0]
      omega
    · simp [hl, hr]
      omega
/-- The first order's first entry is behind none. -/
theorem first_min {H : List Od} {o : Od} {x : En} {r : List En} (hg : Good H) (ho : o ∈ H) (hl : o.l = x :: r) (hm : ∀ b ∈ H, lessO b o = false) :
    hasO H o.n x ∧ ∀ n' y, hasO H n' y → ltB y.k x.k = false ∧ (y.k = x.k → o.n ≤ n') := by
  refine ⟨⟨o, ho, rfl, by rw [hl]; simp⟩, ?_⟩
  rintro n' y ⟨b, hb, rfl, hy⟩
  have h1 := hm b hb
  have hs := hg.srt b hb
  cases hbl : b.l with
  | nil => rw [hbl] at hy; cases hy
  | cons z t =>
    rw [hbl] at hy hs
    have hkb : hk b = z.k := by unfold hk; rw [hbl]
    have hko : hk o = x.k := by unfold hk; rw [hl]
    unfold lessO at h1
    rw [hkb, hko] at h1
    have hzy : y = z ∨ ltB z.k y.k = true := by
      rcases List.mem_cons.1 hy with rfl | hy
      · exact .inl rfl
      · exact .inr (sorted_head hs y hy)
    by_cases hzx : z.k = x.k
    · rw [if_pos (by simp [hzx])] at h1
      have h1' : ¬ b.n < o.n := by simpa using h1
      rcases hzy with rfl | h2
      · exact ⟨by rw [hzx, lt_self], fun _ => by omega⟩
      · rw [hzx] at h2
        exact ⟨lt_asymm h2, fun h => by rw [h, lt_self] at h2; cases h2⟩
    · rw [if_neg (by simp [hzx])] at h1
      have hxz : ltB x.k z.k = true := by
        cases h : ltB x.k z.k with
        | true => rfl
        | false => exact absurd (lt_one h1 h) hzx
      have hxy : ltB x.k y.k = true := by
        rcases hzy with rfl | h2
        · exact hxz
        · exact lt_trans hxz h2
      exact ⟨lt_asymm hxy, fun h => by rw [h, lt_self] at hxy; cases hxy⟩
end Go.Proofs.YtljlfdhjolcnaaaGreat.Mg

/-
  merge: orders in memory: a row of pointers, each to what is left of an order; a reader of them; which is ahead, how many, two change places.
-/
namespace Go.Proofs.YtljlfdhjolcnaaaGreat.Mg
open Go.RowKit Go.Maps Me
set_option maxRecDepth 100000
set_option linter.unusedVariables false

def ptrV (p : Nat) : Value := .pointer (some ⟨p, 0, none⟩)
def cellsP (H : List Od) : List Value := H.map (fun o => ptrV o.p)
theorem len_P (H : List Od) : (cellsP H).length = H.length := by simp [cellsP]
theorem at_P {H : List Od} {j : Nat} {o : Od} (h : H[j]? = some o) : (cellsP H)[j]? = some (ptrV o.p) := by simp [cellsP, h]
/-- Pointers to orders, of one's own. -/
def PO (base : Nat) (w : World) (v : Value) (H : List Od) : Prop := w.ownsRow base 179 1 v H.length (cellsP H)
section
variable {base : Nat} {w w' : World} {v : Value} {H : List Od} {X : Nat → Prop}
theorem PO.stay (h : PO base w v H) (hs : Stay X w w') (hx : ∀ k, v.ownBlock = some k → ¬ X k) : PO base w' v H := by
  refine ⟨h.1, ?_⟩
  rcases h.2 with h' | ⟨g, cap, cur, rfl, h4, hg, r⟩
  · exact .inl h'
  · exact .inr ⟨g, cap, cur, rfl, h4, (hs.block g (Array.getElem?_eq_some_iff.1 hg).1 (hx g rfl)).trans hg, r⟩
theorem PO.stay0 (h : PO base w v H) (hs : Stay (fun _ => False) w w') : PO base w' v H := h.stay hs (fun _ _ x => x)
theorem PO.lt (h : PO base w v H) : ∀ k, v.ownBlock = some k → base ≤ k ∧ k < w.heap.size := World.ownsRow.lt h
theorem PO.form (h : PO base w v H) : ∃ a c, v = .slice a H.length c := by
  rcases h.2 with ⟨e, hn⟩ | ⟨g, cap, cur, e, _⟩
  · exact ⟨none, 0, by rw [e, hn]⟩
  · exact ⟨_, _, e⟩
theorem PO.at (h : PO base w v H) (h0 : 0 < H.length) : ∃ g c, v = .slice (some ⟨g, 0, none⟩) H.length c ∧ H.length ≤ c ∧ c ≤ 9223372036854775807 ∧ base ≤ g ∧ g < w.heap.size := by
  rcases h.2 with ⟨e, hn⟩ | ⟨g, cap, cur, e, h4, hg, h5, h6, _⟩
  · omega
  · exact ⟨g, cap, e, h5, by unfold maxLen at h6; omega, h4, (Array.getElem?_eq_some_iff.1 hg).1⟩
theorem PO.nil (base : Nat) (w : World) : PO base w (.slice none 0 0) [] := World.ownsRow_nil w base _ _
theorem PO.cell {g n c : Nat} (h : PO base w (.slice (some ⟨g, 0, none⟩) n c) H) {j : Nat} {o : Od} (hj : H[j]? = some o) : w.cell? ⟨g, j, none⟩ = some (.pointer (some ⟨o.p, 0, none⟩)) := by
  have := World.ownsRow.cells (g := g) h rfl j _ (at_P hj)
  rwa [add_at, Nat.zero_add] at this
theorem PO.fr {g n c : Nat} (h : PO base w (.slice (some ⟨g, 0, none⟩) n c) H) (j : Nat) : w.frozen? ⟨g, j, none⟩ = false := by
  rcases h.2 with ⟨e, _⟩ | ⟨g', cap, cur, e, h4, hg, r⟩
  · cases e
  · cases e
    exact frozen_of_row w g j _ _ hg
theorem PO.set {g n c : Nat} (h : PO base w (.slice (some ⟨g, 0, none⟩) n c) H) (j : Nat) (o : Od) : PO base (w.setCell ⟨g, j, none⟩ (.pointer (some ⟨o.p, 0, none⟩))) (.slice (some ⟨g, 0, none⟩) n c) (H.set j o) := by
  unfold PO
  rw [List.length_set]
  refine ⟨by rw [len_P, List.length_set, Nat.mul_one], ?_⟩
  rcases h.2 with ⟨e, _⟩ | ⟨g', cap, cur, e, h4, hg, h5, h6, h7, h8⟩
  · cases e
  · cases e
    refine .inr ⟨g, c, cur.setIfInBounds j (.pointer (some ⟨o.p, 0, none⟩)), rfl, h4, heap_setCell_same w g j _ _ _ hg, h5, h6, by simpa using h7, ?_⟩
    have : cellsP (H.set j o) = (cellsP H).set j (.pointer (some ⟨o.p, 0, none⟩)) := by simp [cellsP, List.map_set, ptrV]
    rw [this, ← h8]
    simp [List.take_set]
theorem PO.ty {g n c : Nat} (h : PO base w (.slice (some ⟨g, 0, none⟩) n c) H) : ∃ cs fr, w.heap[g]? = some (.cells cs 179 fr) := by
  rcases h.2 with ⟨e, _⟩ | ⟨g', cap, cur, e, h4, hg, r⟩
  · cases e
  · cases e
    exact ⟨_, _, hg⟩
end

/-- A slice that reads as entries, in blocks of entries. -/
def EnT (w : World) (x : Value) (L : List En) : Prop := EnS w x L ∧ ∀ k, x.ownBlock = some k → ∃ cs fr, w.heap[k]? = some (.cells cs 42 fr)
theorem EnT.stay {w w' : World} {x : Value} {L : List En} {X : Nat → Prop} (h : EnT w x L) (hs : Stay X w w') (hx : ∀ k, x.ownBlock = some k → ¬ X k) : EnT w' x L := by
  refine ⟨h.1.stay hs hx, fun k hk => ?_⟩
  obtain ⟨cs, fr, hg⟩ := h.2 k hk
  exact ⟨cs, fr, (hs.block k (Array.getElem?_eq_some_iff.1 hg).1 (hx k hk)).trans hg⟩
/-- What is left of an order, in memory. -/
structure OdAt (w : World) (o : Od) : Prop where
  g : w.heap[o.p]? = some (.cells #[o.v, .int .i64 (o.n : Int)] 181 (0, 0))
  e : EnT w o.v o.l
section
variable {w w' : World} {o : Od} {X : Nat → Prop}
theorem OdAt.lt (h : OdAt w o) : o.p < w.heap.size := (Array.getElem?_eq_some_iff.1 h.g).1
theorem OdAt.stay (h : OdAt w o) (hs : Stay X w w') (h1 : ¬ X o.p) (h2 : ∀ k, o.v.ownBlock = some k → ¬ X k) : OdAt w' o := ⟨(hs.block _ h.lt h1).trans h.g, h.e.stay hs h2⟩
theorem OdAt.stay0 (h : OdAt w o) (hs : Stay (fun _ => False) w w') : OdAt w' o := h.stay hs (fun x => x) (fun _ _ x => x)
theorem OdAt.c0 (h : OdAt w o) : w.cell? ⟨o.p, 0, none⟩ = some o.v := by rw [cell_of_row w o.p 0 _ _ _ h.g]; rfl
theorem OdAt.c1 (h : OdAt w o) : w.cell? ⟨o.p, 1, none⟩ = some (.int .i64 (o.n : Int)) := by rw [cell_of_row w o.p 1 _ _ _ h.g]; rfl
theorem OdAt.fr (h : OdAt w o) (j : Nat) : w.frozen? ⟨o.p, j, none⟩ = false := frozen_of_row w o.p j _ _ h.g
/-- Its first entry. -/
theorem OdAt.first (h : OdAt w o) {e : En} {r : List En} (hl : o.l = e :: r) : ∃ g a c, o.v = .slice (some ⟨g, a, none⟩) (r.length + 1) c ∧ g < w.heap.size ∧ w.cell? ⟨g, a, none⟩ = some (.string ⟨e.k.toArray⟩) ∧ w.cell? ⟨g, a + 1, none⟩ = some (.string ⟨e.v.toArray⟩) ∧ w.cell? ⟨g, a + 2, none⟩ = some (.bool e.g) := by
  have hs := h.e.1
  rw [hl] at hs
  obtain ⟨a0, c, hv⟩ := hs.form
  rw [hv] at hs ⊢
  obtain ⟨g, a, rfl, hlt, hc⟩ := hs.at (by simp)
  obtain ⟨h0, h1, h2⟩ := hc 0 e rfl
  rw [Nat.zero_mul, Nat.add_zero] at h0 h1 h2
  exact ⟨g, a, c, rfl, hlt, h0, h1, h2⟩
end

set_option maxHeartbeats 1000000 in
theorem less_any (w : World) (v : Value) (H : List Od) (i j : Nat) (a b : Od) (hv : PO 0 w v H) (hi : H[i]? = some a) (hj : H[j]? = some b) (ha : OdAt w a) (hb : OdAt w b) (ha0 : a.l ≠ []) (hb0 : b.l ≠ []) :
    Calls Tryz.prog 193 #[v, .int .i64 (i : Int), .int .i64 (j : Int)] w fun e w' => e = .returned (.bool (lessO a b)) ∧ Stay (fun _ => False) w w' := by
  have hil := (List.getElem?_eq_some_iff.1 hi).1
  have hjl := (List.getElem?_eq_some_iff.1 hj).1
  obtain ⟨g, c, rfl, hc1, hc2, _, _⟩ := hv.at (by omega)
  have ci := hv.cell hi
  have cj := hv.cell hj
  have a0 := ha.c0
  have a1 := ha.c1
  have b0 := hb.c0
  have b1 := hb.c1
  obtain ⟨ea, ra, hla⟩ := List.exists_cons_of_ne_nil ha0
  obtain ⟨eb, rb, hlb⟩ := List.exists_cons_of_ne_nil hb0
  obtain ⟨ga, oa, na, hva, _, ka, _⟩ := ha.first hla
  obtain ⟨gb, ob, nb, hvb, _, kb, _⟩ := hb.first hlb
  rw [hva] at a0
  rw [hvb] at b0
  have hL : lessO a b = if ea.k == eb.k then decide (a.n < b.n) else ltB ea.k eb.k := by unfold lessO hk; rw [hla, hlb]
  have HL := Lib.hid hL
  obtain ⟨R, hR⟩ : ∃ R, R = lessO a b := ⟨_, rfl⟩
  rw [← hR] at HL ⊢
  generalize a.n = an at *
  generalize b.n = bn at *
  generalize a.p = ap at *
  generalize b.p = bp at *
  clear hv hi hj ha hb ha0 hb0 hva hvb hL hla hlb hR
  go_enter Tryz.func193, Tryz.ntmps193
  go_wp2
  go_quiet (fail)
  by_cases hek : ea.k = eb.k
  · have HR := Lib.hid (show R = decide (an < bn) by rw [HL.out, if_pos (by simp [hek])])
    rw [hek] at ka
    clear hek
    go_wp2
    go_quiet (fail)
    go_wp2
    go_quiet (fail)
    go_wp2
    go_ret
    exact ⟨by rw [HR.out]; rfl, ((stay_drewN _ _).trans (stay_drewN _ _)).trans (stay_drewN _ _)⟩
  · have HR := Lib.hid (show R = ltB ea.k eb.k by rw [HL.out, if_neg (by simp [hek])])
    have hne : (ea.k == eb.k) = false := by simpa using hek
    go_wp2
    go_quiet (fail)
    go_wp2
    go_quiet (fail)
    go_wp2
    go_ret
    exact ⟨by rw [HR.out, ← less_eq]; rfl, ((stay_drewN _ _).trans (stay_drewN _ _)).trans (stay_drewN _ _)⟩

theorem len_any (w : World) (v : Value) (H : List Od) (hv : PO 0 w v H) :
    Calls Tryz.prog 192 #[v] w fun e w' => e = .returned (.int .i64 (H.length : Int)) ∧ w' = w := by
  obtain ⟨a, c, rfl⟩ := hv.form
  go_enter Tryz.func192, Tryz.ntmps192
  go_wp2
  go_ret
  exact ⟨rfl, rfl⟩

set_option maxHeartbeats 1000000 in
theorem swap_any (w : World) (g n c : Nat) (H : List Od) (i j : Nat) (hn : n = H.length) (hv : PO 0 w (.slice (some ⟨g, 0, none⟩) n c) H) (hi : i < H.length) (hj : j < H.length) :
    Calls Tryz.prog 194 #[.slice (some ⟨g, 0, none⟩) n c, .int .i64 (i : Int), .int .i64 (j : Int)] w fun e w' => e = .returned (.tuple #[]) ∧ PO 0 w' (.slice (some ⟨g, 0, none⟩) n c) (swapL H i j) ∧ Stay (· = g) w w' := by
  subst hn
  obtain ⟨a, ha⟩ : ∃ a, H[i]? = some a := ⟨_, List.getElem?_eq_getElem hi⟩
  obtain ⟨b, hb⟩ : ∃ b, H[j]? = some b := ⟨_, List.getElem?_eq_getElem hj⟩
  have ci := hv.cell ha
  have cj := hv.cell hb
  have fi := hv.fr i
  have fj := hv.fr j
  have hP := hv.set i b
  have hP2 := hP.set j a
  have hS : swapL H i j = (H.set i b).set j a := by unfold swapL; simp only [ha, hb]
  rw [hS]
  have HP2 := Lib.hid hP2
  by_cases hij : i = j
  · subst hij
    rw [ha] at hb
    cases hb
    generalize a.p = ap at *
    clear hP hP2 hv hS ha
    go_enter Tryz.func194, Tryz.ntmps194
    go_wp2
    go_region
    refine bodyPost_end (results_none rfl _ _ _) rfl ⟨rfl, HP2.out.stay0 Stay.drew, ((Stay.setCell (X := (· = g)) _ _ _ (by rfl)).trans (Stay.setCell (X := (· = g)) _ _ _ (by rfl))).trans Stay.drew⟩
  · have hji : ¬ j = i := fun h => hij h.symm
    generalize a.p = ap at *
    generalize b.p = bp at *
    clear hP hP2 hv hS ha hb
    go_enter Tryz.func194, Tryz.ntmps194
    go_wp2
    go_region
    refine bodyPost_end (results_none rfl _ _ _) rfl ⟨rfl, HP2.out.stay0 Stay.drew, ((Stay.setCell (X := (· = g)) _ _ _ (by rfl)).trans (Stay.setCell (X := (· = g)) _ _ _ (by rfl))).trans Stay.drew⟩
end Go.Proofs.YtljlfdhjolcnaaaGreat.Mg

/-
  merge: a reader in memory; the heap over it: down, up.
-/
namespace Go.Proofs.YtljlfdhjolcnaaaGreat.Mg
open Go.RowKit Go.Maps Me
set_option maxRecDepth 100000
set_option linter.unusedVariables false

/-- A reader in memory, all of its blocks among A. -/
structure RdAt (A : Nat → Prop) (w : World) (r : Nat) (H : List Od) : Prop where
  ex : ∃ v, w.heap[r]? = some (.cells #[v] 177 (0, 0)) ∧ PO 0 w v H ∧ ∀ k, v.ownBlock = some k → A k
  od : ∀ o ∈ H, OdAt w o ∧ A o.p ∧ o.l ≠ [] ∧ ∀ k, o.v.ownBlock = some k → A k
  nd : (H.map (·.p)).Nodup
  rr : A r
theorem ne_ty {w : World} {a b : Nat} {c1 c2 : Array Value} {t1 t2 : TypeId} {f1 f2 : Nat × Nat} (h1 : w.heap[a]? = some (.cells c1 t1 f1)) (h2 : w.heap[b]? = some (.cells c2 t2 f2)) (ht : t1 ≠ t2) : a ≠ b := by
  rintro rfl
  rw [h1] at h2
  cases h2
  exact ht rfl
section
variable {A A' X : Nat → Prop} {w w' : World} {r : Nat} {H H' : List Od}
theorem RdAt.lt (h : RdAt A w r H) : r < w.heap.size := by
  obtain ⟨v, h1, _⟩ := h.ex
  exact (Array.getElem?_eq_some_iff.1 h1).1
theorem RdAt.stay (h : RdAt A w r H) (hs : Stay X w w') (hx : ∀ k, A k → ¬ X k) : RdAt A w' r H := by
  obtain ⟨v, h1, h2, h3⟩ := h.ex
  exact ⟨⟨v, (hs.block r h.lt (hx r h.rr)).trans h1, h2.stay hs (fun k hk => hx k (h3 k hk)), h3⟩, fun o ho => ⟨(h.od o ho).1.stay hs (hx _ (h.od o ho).2.1) (fun k hk => hx k ((h.od o ho).2.2.2 k hk)), (h.od o ho).2⟩, h.nd, h.rr⟩
theorem RdAt.stay0 (h : RdAt A w r H) (hs : Stay (fun _ => False) w w') : RdAt A w' r H := h.stay hs (fun _ _ x => x)
theorem RdAt.mono (h : RdAt A w r H) (hb : ∀ k, k < w.heap.size → A k → A' k) : RdAt A' w r H := by
  obtain ⟨v, h1, h2, h3⟩ := h.ex
  refine ⟨⟨v, h1, h2, fun k hk => hb k (h2.lt k hk).2 (h3 k hk)⟩, fun o ho => ?_, h.nd, hb r h.lt h.rr⟩
  obtain ⟨h4, h5, h6, h7⟩ := h.od o ho
  refine ⟨h4, hb _ h4.lt h5, h6, fun k hk => ?_⟩
  obtain ⟨cs, fr, hg⟩ := h4.e.2 k hk
  exact hb k (Array.getElem?_eq_some_iff.1 hg).1 (h7 k hk)
theorem RdAt.at (h : RdAt A w r H) {j : Nat} {o : Od} (hj : H[j]? = some o) : OdAt w o ∧ A o.p ∧ o.l ≠ [] ∧ ∀ k, o.v.ownBlock = some k → A k := h.od o (List.mem_of_getElem? hj)
/-- Its row of pointers. -/
theorem RdAt.row (h : RdAt A w r H) (h0 : 0 < H.length) : ∃ g c, w.heap[r]? = some (.cells #[.slice (some ⟨g, 0, none⟩) H.length c] 177 (0, 0)) ∧ PO 0 w (.slice (some ⟨g, 0, none⟩) H.length c) H ∧ A g ∧ H.length ≤ c ∧ c ≤ 9223372036854775807 := by
  obtain ⟨v, h1, h2, h3⟩ := h.ex
  obtain ⟨g, c, rfl, h4, h5, _⟩ := h2.at h0
  exact ⟨g, c, h1, h2, h3 g rfl, h4, h5⟩
/-- Behind a change in the row of pointers alone. -/
theorem RdAt.turn {g c n : Nat} (h : RdAt A w r H) (h1 : w.heap[r]? = some (.cells #[.slice (some ⟨g, 0, none⟩) n c] 177 (0, 0))) (hP : PO 0 w (.slice (some ⟨g, 0, none⟩) n c) H) (hA : A g) (hs : Stay (· = g) w w') (hP' : PO 0 w' (.slice (some ⟨g, 0, none⟩) n c) H') (hp : H'.Perm H) : RdAt A w' r H' := by
  obtain ⟨cs, fr, hg⟩ := hP.ty
  have hrg : r ≠ g := ne_ty h1 hg (by decide)
  refine ⟨⟨_, (hs.block r h.lt hrg).trans h1, hP', fun k hk => by cases hk; exact hA⟩, fun o ho => ?_, (hp.map _).nodup_iff.2 h.nd, h.rr⟩
  obtain ⟨h4, h5, h6, h7⟩ := h.od o (hp.mem_iff.1 ho)
  refine ⟨h4.stay hs (ne_ty h4.g hg (by decide)) (fun k hk => ?_), h5, h6, h7⟩
  obtain ⟨cs', fr', hg'⟩ := h4.e.2 k hk
  exact ne_ty hg' hg (by decide)
end
/-- A reader's heap, as heap's calls take it. -/
def hv (r : Nat) : Value := .iface 183 (.pointer (some ⟨r, 0, none⟩))

/-- The heap's calls, through the interface. -/
theorem run_chk (P : Program) (w : World) (t : TypeId) (a : Addr) (s1 s2 : ByteArray) : (Builtin.ssaWrapNilChk_ #[t] t #[.pointer (some a), .string s1, .string s2]).run P w = .ok (.pointer (some a)) w := rfl
theorem meth_of {P : Program} {w : World} {n : Nat} {t ty : TypeId} {r : Nat} {nm : String} {f : FuncId} {v : Value} (hm : ((P.info? t).bind (fun i => i.methods.find? (fun m => m.name == nm))).map (fun m => (m.path.toList, m.func)) = some ([], some (f, false))) (hu : P.underlying t = some (.pointer ty)) (hl : (loadVar ty ⟨r, 0, none⟩).run P w = .ok v w) : (method (n + 1) t (.pointer (some ⟨r, 0, none⟩)) nm).run P w = .ok (f, v) w := by
  cases hi : P.info? t with
  | none => simp [hi] at hm
  | some i =>
    rw [hi] at hm
    cases hf : i.methods.find? (fun m => m.name == nm) with
    | none => simp [hf] at hm
    | some m =>
      simp [hf] at hm
      obtain ⟨h1, h2⟩ := hm
      unfold method
      simp [typeInfo, hi, hf, h1, h2, follow, receiverAt, run_underlying hu, Sem.run_bind, Place.get, run_chk, strVal, asAddr, hl]
theorem load_orders {w : World} {r : Nat} {v : Value} (h : w.heap[r]? = some (.cells #[v] 177 (0, 0))) : (loadVar 175 ⟨r, 0, none⟩).run Tryz.prog w = .ok v w := by
  have hc : w.cell? ⟨r, 0, none⟩ = some v := by rw [cell_of_row w r 0 _ _ _ h]; rfl
  go_simp
theorem meth_len (w : World) (r : Nat) (v : Value) (h : w.heap[r]? = some (.cells #[v] 177 (0, 0))) : (method 366 183 (.pointer (some ⟨r, 0, none⟩)) "Len").run Tryz.prog w = .ok (192, v) w :=
  meth_of (by kernel_rfl) Tryz.underlying183 (load_orders h)
theorem meth_less (w : World) (r : Nat) (v : Value) (h : w.heap[r]? = some (.cells #[v] 177 (0, 0))) : (method 366 183 (.pointer (some ⟨r, 0, none⟩)) "Less").run Tryz.prog w = .ok (193, v) w :=
  meth_of (by kernel_rfl) Tryz.underlying183 (load_orders h)
theorem meth_swap (w : World) (r : Nat) (v : Value) (h : w.heap[r]? = some (.cells #[v] 177 (0, 0))) : (method 366 183 (.pointer (some ⟨r, 0, none⟩)) "Swap").run Tryz.prog w = .ok (194, v) w :=
  meth_of (by kernel_rfl) Tryz.underlying183 (load_orders h)
theorem meth_push (w : World) (r : Nat) : (method 366 183 (.pointer (some ⟨r, 0, none⟩)) "Push").run Tryz.prog w = .ok (196, .pointer (some ⟨r, 0, none⟩)) w := by kernel_rfl
theorem meth_pop (w : World) (r : Nat) : (method 366 183 (.pointer (some ⟨r, 0, none⟩)) "Pop").run Tryz.prog w = .ok (195, .pointer (some ⟨r, 0, none⟩)) w := by kernel_rfl

section
variable {A : Nat → Prop} {w : World} {r : Nat} {H : List Od}
theorem rd_less {v : Value} {i j : Nat} {a b : Od} (h : RdAt A w r H) (hP : PO 0 w v H) (hi : H[i]? = some a) (hj : H[j]? = some b) :
    Calls Tryz.prog 193 #[v, .int .i64 (i : Int), .int .i64 (j : Int)] w fun e w' => e = .returned (.bool (lessO a b)) ∧ Stay (fun _ => False) w w' :=
  less_any w v H i j a b hP hi hj (h.at hi).1 (h.at hj).1 (h.at hi).2.2.1 (h.at hj).2.2.1
theorem rd_swap {g n c : Nat} {i j : Nat} (hn : n = H.length) (h : RdAt A w r H) (h1 : w.heap[r]? = some (.cells #[.slice (some ⟨g, 0, none⟩) n c] 177 (0, 0))) (hP : PO 0 w (.slice (some ⟨g, 0, none⟩) n c) H) (hA : A g) (hi : i < H.length) (hj : j < H.length) :
    Calls Tryz.prog 194 #[.slice (some ⟨g, 0, none⟩) n c, .int .i64 (i : Int), .int .i64 (j : Int)] w fun e w' => e = .returned (.tuple #[]) ∧ RdAt A w' r (swapL H i j) ∧ w'.heap[r]? = some (.cells #[.slice (some ⟨g, 0, none⟩) n c] 177 (0, 0)) ∧ Stay A w w' := by
  refine (swap_any w g n c H i j hn hP hi hj).mono fun e w' ⟨he, hP', hs⟩ => ⟨he, h.turn h1 hP hA hs hP' (swap_perm H i j), ?_, hs.mono (fun k hk => by subst hk; exact hA)⟩
  obtain ⟨cs, fr, hg⟩ := hP.ty
  exact (hs.block r h.lt (ne_ty h1 hg (by decide))).trans h1
end

set_option maxHeartbeats 1000000 in
theorem down_any (A : Nat → Prop) (w : World) (r : Nat) (H : List Od) (i n : Nat) (h : RdAt A w r H) (hn : n ≤ H.length) (hb : H.length ≤ 1000000) (hi : i ≤ n) (hf : HF H (i + 1) n) :
    Calls Tryz.prog 144 #[hv r, .int .i64 (i : Int), .int .i64 (n : Int)] w fun e w' => ∃ b H', e = .returned (.bool b) ∧ RdAt A w' r H' ∧ H'.Perm H ∧ (∀ k, n ≤ k → H'[k]? = H[k]?) ∧ HF H' i n ∧ Stay A w w' := by
  have HD := Lib.hid (Dn.begin hf)
  have HR := Lib.hid h
  have hnb : (n : Int) ≤ 1000000 := by omega
  have HN := Lib.hid hn
  have HB := Lib.hid hb
  clear hf h hn hb
  unfold hv
  go_enter Tryz.func144, Tryz.ntmps144
  go_wp2
  go_loopw [7] (fun t wr => ∃ (t0 : Nat) (H' : List Od), t = .int .i64 (t0 : Int) ∧ i ≤ t0 ∧ t0 ≤ n ∧ Hid (Dn H' i t0 n) ∧ Hid (RdAt A wr r H') ∧ Hid (H'.Perm H) ∧ Hid (∀ k, n ≤ k → H'[k]? = H[k]?) ∧ Hid (Stay A w wr)) (fun t _ => n - (intOf t).toNat)
  case atStart => exact ⟨i, H, rfl, Nat.le_refl _, hi, HD, HR, Lib.hid (List.Perm.refl _), Lib.hid (fun _ _ => rfl), Lib.hid (Stay.refl _ _)⟩
  case round =>
    obtain ⟨t, H', rfl, h1, h2, HD', HR', HP', HK', HS'⟩ := hrel
    have HL' := Lib.hid (show n ≤ H'.length by rw [HP'.out.length_eq]; exact HN.out)
    obtain ⟨j1, ej1⟩ : ∃ j1, j1 = 2 * t + 1 := ⟨_, rfl⟩
    have hjI : 2 * (t : Int) + 1 = (j1 : Int) := by omega
    have EJ1 := Lib.hid ej1
    clear ej1
    by_cases hj1 : j1 < n
    · obtain ⟨j2, ej2⟩ : ∃ j2, j2 = j1 + 1 := ⟨_, rfl⟩
      have hj2I : (j1 : Int) + 1 = (j2 : Int) := by omega
      have EJ2 := Lib.hid ej2
      clear ej2
      have hge : ¬ (n : Int) ≤ (j1 : Int) := by omega
      obtain ⟨x, hx⟩ : ∃ x, H'[t]? = some x := ⟨_, List.getElem?_eq_getElem (by have := HL'.out; have := EJ1.out; omega)⟩
      obtain ⟨y1, hy1⟩ : ∃ y, H'[j1]? = some y := ⟨_, List.getElem?_eq_getElem (by have := HL'.out; omega)⟩
      have HX := Lib.hid hx
      have HY1 := Lib.hid hy1
      clear hx hy1
      obtain ⟨g, c, hr, hP, hA, _, _⟩ := HR'.out.row (by have := HL'.out; omega)
      have hm := meth_less _ _ _ hr
      have HPo := Lib.hid hP
      clear hP
      by_cases hj2 : j2 < n
      · have hlt2 : (j2 : Int) < (n : Int) := by omega
        obtain ⟨y2, hy2⟩ : ∃ y, H'[j2]? = some y := ⟨_, List.getElem?_eq_getElem (by have := HL'.out; omega)⟩
        have HY2 := Lib.hid hy2
        clear hy2
        cases hl21 : lessO y2 y1 with
        | true =>
          have HLT := Lib.hid hl21
          go_wp2_with fail
          refine (rd_less HR'.out HPo.out HY2.out HY1.out).mono ?_
          rintro e w1 ⟨rfl, hs1⟩
          rw [hl21]
          have hr1 := (hs1.block _ HR'.out.lt (fun x => x)).trans hr
          have HR1 := Lib.hid (HR'.out.stay0 hs1)
          have HP1 := Lib.hid (HPo.out.stay0 hs1)
          have hm1 := meth_less _ _ _ hr1
          have HS1 := Lib.hid hs1
          clear hm hs1 hl21 hr
          have HM := Lib.hid (show ∀ q b, 0 < q → q < n → (q - 1) / 2 = t → H'[q]? = some b → lessO b y2 = false from fun q b hq0 hq1 hqp hb => by
                      have e1 := EJ1.out; have e2 := EJ2.out
                      by_cases hq : q = j2
                      · subst hq; rw [HY2.out] at hb; cases hb; exact less_self _
                      · have hq' : q = j1 := by omega
                        subst hq'; rw [HY1.out] at hb; cases hb; exact less_not HLT.out)
          cases hlx : lessO y2 x with
          | true =>
            have HLX := Lib.hid hlx
            have HSTEP := Lib.hid (HD'.out.step (by rw [HP'.out.length_eq]; exact HN.out) h1 (by omega) (by omega) (by have := EJ1.out; have := EJ2.out; omega) HX.out HY2.out HLX.out HM.out)
            go_wp2_with fail
            refine (rd_less HR1.out HP1.out HY2.out HX.out).mono ?_
            rintro e w2 ⟨rfl, hs2⟩
            rw [hlx]
            have hr2 := (hs2.block _ HR1.out.lt (fun x => x)).trans hr1
            have HR2 := Lib.hid (HR1.out.stay0 hs2)
            have HP2 := Lib.hid (HP1.out.stay0 hs2)
            have hm2 := meth_swap _ _ _ hr2
            have HS2 := Lib.hid hs2
            clear hm1 hs2 hlx
            go_wp2_with fail
            refine (rd_swap rfl HR2.out hr2 HP2.out hA (by have := HL'.out; omega) (by have := HL'.out; omega)).mono ?_
            rintro e w3 ⟨rfl, hR3, hr3, hs3⟩
            have HR3 := Lib.hid hR3
            have HS3 := Lib.hid hs3
            clear hm2 hr2 hr3 hR3 hs3
            go_wp2
            refine ⟨⟨j2, swapL H' t j2, rfl, by have := EJ1.out; have := EJ2.out; omega, by omega, HSTEP, HR3, Lib.hid ((swap_perm _ _ _).trans HP'.out), Lib.hid (fun k hk => ?_), Lib.hid (((HS'.out.trans ((HS1.out).mono (fun _ x => x.elim))).trans (HS2.out.mono (fun _ x => x.elim))).trans HS3.out)⟩, ?_⟩
            · rw [swap_at (by have := HL'.out; omega) (by have := HL'.out; omega), if_neg (by omega), if_neg (by omega)]
              exact HK'.out k hk
            · simp [intOf]; have := EJ1.out; have := EJ2.out; omega
          | false =>
            have HLX := Lib.hid hlx
            have HDONE := Lib.hid (HD'.out.done (fun q a b hq0 hq1 hqp ha hb => by rw [HX.out] at ha; cases ha; exact le_trans' HLX.out (HM.out q b hq0 hq1 hqp hb)))
            go_wp2_with fail
            refine (rd_less HR1.out HP1.out HY2.out HX.out).mono ?_
            rintro e w2 ⟨rfl, hs2⟩
            rw [hlx]
            have HR2 := Lib.hid (HR1.out.stay0 hs2)
            have HS2 := Lib.hid hs2
            clear hm1 hs2 hlx
            go_wp2
            go_ret
            exact ⟨_, H', rfl, HR2.out, HP'.out, HK'.out, HDONE.out, (HS'.out.trans ((HS1.out).mono (fun _ x => x.elim))).trans (HS2.out.mono (fun _ x => x.elim))⟩
        | false =>
          have HLT := Lib.hid hl21
          go_wp2_with fail
          refine (rd_less HR'.out HPo.out HY2.out HY1.out).mono ?_
          rintro e w1 ⟨rfl, hs1⟩
          rw [hl21]
          have hr1 := (hs1.block _ HR'.out.lt (fun x => x)).trans hr
          have HR1 := Lib.hid (HR'.out.stay0 hs1)
          have HP1 := Lib.hid (HPo.out.stay0 hs1)
          have hm1 := meth_less _ _ _ hr1
          have HS1 := Lib.hid hs1
          clear hm hs1 hl21 hr
          have HM := Lib.hid (show ∀ q b, 0 < q → q < n → (q - 1) / 2 = t → H'[q]? = some b → lessO b y1 = false from fun q b hq0 hq1 hqp hb => by
                      have e1 := EJ1.out; have e2 := EJ2.out
                      by_cases hq : q = j1
                      · subst hq; rw [HY1.out] at hb; cases hb; exact less_self _
                      · have hq' : q = j2 := by omega
                        subst hq'; rw [HY2.out] at hb; cases hb; exact HLT.out)
          cases hlx : lessO y1 x with
          | true =>
            have HLX := Lib.hid hlx
            have HSTEP := Lib.hid (HD'.out.step (by rw [HP'.out.length_eq]; exact HN.out) h1 (by omega) (by omega) (by have := EJ1.out; omega) HX.out HY1.out HLX.out HM.out)
            go_wp2_with fail
            refine (rd_less HR1.out HP1.out HY1.out HX.out).mono ?_
            rintro e w2 ⟨rfl, hs2⟩
            rw [hlx]
            have hr2 := (hs2.block _ HR1.out.lt (fun x => x)).trans hr1
            have HR2 := Lib.hid (HR1.out.stay0 hs2)
            have HP2 := Lib.hid (HP1.out.stay0 hs2)
            have hm2 := meth_swap _ _ _ hr2
            have HS2 := Lib.hid hs2
            clear hm1 hs2 hlx
            go_wp2_with fail
            refine (rd_swap rfl HR2.out hr2 HP2.out hA (by have := HL'.out; omega) (by have := HL'.out; omega)).mono ?_
            rintro e w3 ⟨rfl, hR3, hr3, hs3⟩
            have HR3 := Lib.hid hR3
            have HS3 := Lib.hid hs3
            clear hm2 hr2 hr3 hR3 hs3
            go_wp2
            refine ⟨⟨j1, swapL H' t j1, rfl, by have := EJ1.out; omega, by omega, HSTEP, HR3, Lib.hid ((swap_perm _ _ _).trans HP'.out), Lib.hid (fun k hk => ?_), Lib.hid (((HS'.out.trans ((HS1.out).mono (fun _ x => x.elim))).trans (HS2.out.mono (fun _ x => x.elim))).trans HS3.out)⟩, ?_⟩
            · rw [swap_at (by have := HL'.out; omega) (by have := HL'.out; omega), if_neg (by omega), if_neg (by omega)]
              exact HK'.out k hk
            · simp [intOf]; have := EJ1.out; omega
          | false =>
            have HLX := Lib.hid hlx
            have HDONE := Lib.hid (HD'.out.done (fun q a b hq0 hq1 hqp ha hb => by rw [HX.out] at ha; cases ha; exact le_trans' HLX.out (HM.out q b hq0 hq1 hqp hb)))
            go_wp2_with fail
            refine (rd_less HR1.out HP1.out HY1.out HX.out).mono ?_
            rintro e w2 ⟨rfl, hs2⟩
            rw [hlx]
            have HR2 := Lib.hid (HR1.out.stay0 hs2)
            have HS2 := Lib.hid hs2
            clear hm1 hs2 hlx
            go_wp2
            go_ret
            exact ⟨_, H', rfl, HR2.out, HP'.out, HK'.out, HDONE.out, (HS'.out.trans ((HS1.out).mono (fun _ x => x.elim))).trans (HS2.out.mono (fun _ x => x.elim))⟩
      · have hnlt2 : ¬ (j2 : Int) < (n : Int) := by omega
        have HM := Lib.hid (show ∀ q b, 0 < q → q < n → (q - 1) / 2 = t → H'[q]? = some b → lessO b y1 = false from fun q b hq0 hq1 hqp hb => by
                  have e1 := EJ1.out; have e2 := EJ2.out
                  have hq : q = j1 := by omega
                  subst hq; rw [HY1.out] at hb; cases hb; exact less_self _)
        cases hlx : lessO y1 x with
        | true =>
          have HLX := Lib.hid hlx
          have HSTEP := Lib.hid (HD'.out.step (by rw [HP'.out.length_eq]; exact HN.out) h1 (by omega) (by omega) (by have := EJ1.out; omega) HX.out HY1.out HLX.out HM.out)
          go_wp2_with fail
          refine (rd_less HR'.out HPo.out HY1.out HX.out).mono ?_
          rintro e w2 ⟨rfl, hs2⟩
          rw [hlx]
          have hr2 := (hs2.block _ HR'.out.lt (fun x => x)).trans hr
          have HR2 := Lib.hid (HR'.out.stay0 hs2)
          have HP2 := Lib.hid (HPo.out.stay0 hs2)
          have hm2 := meth_swap _ _ _ hr2
          have HS2 := Lib.hid hs2
          clear hm hs2 hlx
          go_wp2_with fail
          refine (rd_swap rfl HR2.out hr2 HP2.out hA (by have := HL'.out; omega) (by have := HL'.out; omega)).mono ?_
          rintro e w3 ⟨rfl, hR3, hr3, hs3⟩
          have HR3 := Lib.hid hR3
          have HS3 := Lib.hid hs3
          clear hm2 hr2 hr3 hR3 hs3
          go_wp2
          refine ⟨⟨j1, swapL H' t j1, rfl, by have := EJ1.out; omega, by omega, HSTEP, HR3, Lib.hid ((swap_perm _ _ _).trans HP'.out), Lib.hid (fun k hk => ?_), Lib.hid (((HS'.out.trans ((Stay.refl (fun _ => False) wr).mono (fun _ x => x.elim))).trans (HS2.out.mono (fun _ x => x.elim))).trans HS3.out)⟩, ?_⟩
          · rw [swap_at (by have := HL'.out; omega) (by have := HL'.out; omega), if_neg (by omega), if_neg (by omega)]
            exact HK'.out k hk
          · simp [intOf]; have := EJ1.out; omega
        | false =>
          have HLX := Lib.hid hlx
          have HDONE := Lib.hid (HD'.out.done (fun q a b hq0 hq1 hqp ha hb => by rw [HX.out] at ha; cases ha; exact le_trans' HLX.out (HM.out q b hq0 hq1 hqp hb)))
          go_wp2_with fail
          refine (rd_less HR'.out HPo.out HY1.out HX.out).mono ?_
          rintro e w2 ⟨rfl, hs2⟩
          rw [hlx]
          have HR2 := Lib.hid (HR'.out.stay0 hs2)
          have HS2 := Lib.hid hs2
          clear hm hs2 hlx
          go_wp2
          go_ret
          exact ⟨_, H', rfl, HR2.out, HP'.out, HK'.out, HDONE.out, (HS'.out.trans ((Stay.refl (fun _ => False) wr).mono (fun _ x => x.elim))).trans (HS2.out.mono (fun _ x => x.elim))⟩
    · have HDONE := Lib.hid (HD'.out.done (fun q a b hq0 hq1 hqp ha hb => by have := EJ1.out; omega))
      go_wp2
      go_ret
      exact ⟨_, H', rfl, HR'.out, HP'.out, HK'.out, HDONE.out, HS'.out⟩
end Go.Proofs.YtljlfdhjolcnaaaGreat.Mg

/-
  merge: the heap over a reader: up, Init.
-/
namespace Go.Proofs.YtljlfdhjolcnaaaGreat.Mg
open Go.RowKit Go.Maps Me
set_option maxRecDepth 100000
set_option linter.unusedVariables false

set_option maxHeartbeats 1000000 in
theorem up_any (A : Nat → Prop) (w : World) (r : Nat) (H : List Od) (j : Nat) (h : RdAt A w r H) (hj : j < H.length) (hb : H.length ≤ 1000000) (hu : Up H j) :
    Calls Tryz.prog 165 #[hv r, .int .i64 (j : Int)] w fun e w' => ∃ H', e = .returned (.tuple #[]) ∧ RdAt A w' r H' ∧ H'.Perm H ∧ HF H' 0 H'.length ∧ Stay A w w' := by
  have HU := Lib.hid hu
  have HR := Lib.hid h
  have hnb : (j : Int) ≤ 1000000 := by omega
  have HJ := Lib.hid hj
  have HB := Lib.hid hb
  clear hu h hb hj
  unfold hv
  go_enter Tryz.func165, Tryz.ntmps165
  go_wp2
  go_loopw [1] (fun t wr => ∃ (t0 : Nat) (H' : List Od), t = .int .i64 (t0 : Int) ∧ t0 ≤ j ∧ Hid (Up H' t0) ∧ Hid (RdAt A wr r H') ∧ Hid (H'.Perm H) ∧ Hid (Stay A w wr)) (fun t _ => (intOf t).toNat)
  case atStart => exact ⟨j, H, rfl, Nat.le_refl _, HU, HR, Lib.hid (List.Perm.refl _), Lib.hid (Stay.refl _ _)⟩
  case round =>
    obtain ⟨t, H', rfl, h1, HU', HR', HP', HS'⟩ := hrel
    have HL' := Lib.hid (show t < H'.length by have := HJ.out; rw [HP'.out.length_eq]; omega)
    by_cases ht : t = 0
    · subst ht
      have HDONE := Lib.hid HU'.out.top
      go_wp2
      refine bodyPost_end (results_none rfl _ _ _) rfl ⟨H', rfl, HR'.out, HP'.out, HDONE.out, HS'.out⟩
    · obtain ⟨q, eq⟩ : ∃ q, q = (t - 1) / 2 := ⟨_, rfl⟩
      have hqI : ((t : Int) - 1).tdiv 2 = (q : Int) := by
        rw [Int.tdiv_eq_ediv_of_nonneg (by omega)]
        omega
      have hqw : wrap64 (q : Int) = (q : Int) := by unfold wrap64; omega
      have EQ := Lib.hid eq
      have hne : ¬ q = t := by omega
      have hnI : ¬ (q : Int) = (t : Int) := by omega
      have ht0 : 0 < t := by omega
      clear eq ht
      obtain ⟨x, hx⟩ : ∃ x, H'[q]? = some x := ⟨_, List.getElem?_eq_getElem (by have := HL'.out; have := EQ.out; omega)⟩
      obtain ⟨y, hy⟩ : ∃ y, H'[t]? = some y := ⟨_, List.getElem?_eq_getElem HL'.out⟩
      have HX := Lib.hid hx
      have HY := Lib.hid hy
      clear hx hy
      obtain ⟨g, c, hr, hP, hA, _, _⟩ := HR'.out.row (by have := HL'.out; omega)
      have hm := meth_less _ _ _ hr
      have HPo := Lib.hid hP
      clear hP
      cases hlx : lessO y x with
      | true =>
        have HLX := Lib.hid hlx
        have HSTEP := Lib.hid (show Up (swapL H' q t) q by
          have := HU'.out.step ht0 (by rw [← EQ.out]; exact HX.out) HY.out HLX.out
          rwa [← EQ.out] at this)
        go_wp2_with fail
        refine (rd_less HR'.out HPo.out HY.out HX.out).mono ?_
        rintro e w2 ⟨rfl, hs2⟩
        rw [hlx]
        have hr2 := (hs2.block _ HR'.out.lt (fun x => x)).trans hr
        have HR2 := Lib.hid (HR'.out.stay0 hs2)
        have HP2 := Lib.hid (HPo.out.stay0 hs2)
        have hm2 := meth_swap _ _ _ hr2
        have HS2 := Lib.hid hs2
        clear hm hs2 hlx hr
        go_wp2_with fail
        refine (rd_swap rfl HR2.out hr2 HP2.out hA (by have := HL'.out; have := EQ.out; omega) HL'.out).mono ?_
        rintro e w3 ⟨rfl, hR3, hr3, hs3⟩
        have HR3 := Lib.hid hR3
        have HS3 := Lib.hid hs3
        clear hm2 hr2 hr3 hR3 hs3
        go_wp2
        refine ⟨⟨q, swapL H' q t, rfl, by have := EQ.out; omega, HSTEP, HR3, Lib.hid ((swap_perm _ _ _).trans HP'.out), Lib.hid ((HS'.out.trans (HS2.out.mono (fun _ x => x.elim))).trans HS3.out)⟩, ?_⟩
        simp [intOf]; have := EQ.out; omega
      | false =>
        have HLX := Lib.hid hlx
        have HDONE := Lib.hid (HU'.out.done (by rw [← EQ.out]; exact HX.out) HY.out HLX.out)
        go_wp2_with fail
        refine (rd_less HR'.out HPo.out HY.out HX.out).mono ?_
        rintro e w2 ⟨rfl, hs2⟩
        rw [hlx]
        have HR2 := Lib.hid (HR'.out.stay0 hs2)
        have HS2 := Lib.hid hs2
        clear hm hs2 hlx hr
        go_wp2
        refine bodyPost_end (results_none rfl _ _ _) rfl ⟨H', rfl, HR2.out, HP'.out, HDONE.out, HS'.out.trans (HS2.out.mono (fun _ x => x.elim))⟩

set_option maxHeartbeats 1000000 in
theorem init_any (A : Nat → Prop) (w : World) (r : Nat) (H : List Od) (h : RdAt A w r H) (hb : H.length ≤ 1000000) :
    Calls Tryz.prog 108 #[hv r] w fun e w' => ∃ H', e = .returned (.tuple #[]) ∧ RdAt A w' r H' ∧ H'.Perm H ∧ HF H' 0 H'.length ∧ Stay A w w' := by
  have HR := Lib.hid h
  have hnb : (H.length : Int) ≤ 1000000 := by omega
  have HB := Lib.hid hb
  obtain ⟨v, hr, hP, _⟩ := h.ex
  have hm := meth_len _ _ _ hr
  have HP := Lib.hid hP
  clear h hb hP hr
  obtain ⟨n, hn⟩ : ∃ n, n = H.length := ⟨_, rfl⟩
  have HN := Lib.hid hn
  obtain ⟨q, eq⟩ : ∃ q, q = n / 2 := ⟨_, rfl⟩
  have hqI : (n : Int).tdiv 2 = (q : Int) := by rw [Int.tdiv_eq_ediv_of_nonneg (by omega)]; omega
  have hqw : wrap64 (q : Int) = (q : Int) := by unfold wrap64; omega
  have hqb : (q : Int) ≤ 1000000 := by omega
  have EQ := Lib.hid eq
  have hlen := len_any w v H HP.out
  rw [← hn] at hlen hnb
  clear eq hn
  unfold hv
  go_enter Tryz.func108, Tryz.ntmps108
  go_wp2_with fail
  refine hlen.mono ?_
  rintro e w' ⟨rfl, hw⟩
  rw [hw]
  clear hm hlen hw
  have HF0 := Lib.hid (show HF H q n from fun j a b h0 h1 h2 ha hb => by have := EQ.out; omega)
  have HPR := Lib.hid (List.Perm.refl H)
  have HST := Lib.hid (Stay.refl A w)
  go_wp2
  go_loopw [3] (fun t wr => ∃ (d : Nat) (H' : List Od), d ≤ q ∧ ((∃ k : Nat, d = k + 1 ∧ t = .int .i64 (k : Int)) ∨ (d = 0 ∧ t = .int .i64 (-1))) ∧ Hid (HF H' d n) ∧ Hid (RdAt A wr r H') ∧ Hid (H'.Perm H) ∧ Hid (Stay A w wr)) (fun t _ => (intOf t + 1).toNat)
  case atStart =>
    refine ⟨q, H, Nat.le_refl _, ?_, HF0, HR, HPR, HST⟩
    by_cases h0 : q = 0
    · subst h0; exact .inr ⟨rfl, rfl⟩
    · exact .inl ⟨q - 1, by omega, congrArg (Value.int .i64) (by omega)⟩
  case round =>
    obtain ⟨d, H', hd, hk, HF', HR', HP', HS'⟩ := hrel
    rcases hk with ⟨k, rfl, rfl⟩ | ⟨rfl, rfl⟩
    · have hkb : (k : Int) ≤ 1000000 := by omega
      have HL' := Lib.hid (show H'.length = n by rw [HP'.out.length_eq]; exact HN.out.symm)
      go_wp2_with fail
      refine (down_any A _ r H' k n HR'.out (by rw [HL'.out]; exact Nat.le_refl _) (by rw [HP'.out.length_eq]; exact HB.out) (by have := EQ.out; omega) HF'.out).mono ?_
      rintro e w1 ⟨b, H1, rfl, hR1, hP1, _, hF1, hS1⟩
      have HR1 := Lib.hid hR1
      have HP1 := Lib.hid hP1
      have HF1 := Lib.hid hF1
      have HS1 := Lib.hid hS1
      clear hR1 hP1 hF1 hS1
      go_wp2
      refine ⟨⟨k, H1, by omega, (?_ : (∃ k1 : Nat, k = k1 + 1 ∧ _) ∨ (k = 0 ∧ _)), HF1, HR1, Lib.hid (HP1.out.trans HP'.out), Lib.hid (HS'.out.trans HS1.out)⟩, ?_⟩
      · by_cases h0 : k = 0
        · subst h0; exact .inr ⟨rfl, rfl⟩
        · exact .inl ⟨k - 1, by omega, congrArg (Value.int .i64) (by omega)⟩
      · simp [intOf]
    · have HF2 := Lib.hid (show HF H' 0 H'.length by rw [HP'.out.length_eq, ← HN.out]; exact HF'.out)
      go_wp2
      refine bodyPost_end (results_none rfl _ _ _) rfl ⟨H', rfl, HR'.out, HP'.out, HF2.out, HS'.out⟩
end Go.Proofs.YtljlfdhjolcnaaaGreat.Mg

/-
  merge: a pointer put behind others, taken off; the heap's Push and Pop.
-/
namespace Go.Proofs.YtljlfdhjolcnaaaGreat.Mg
open Go.RowKit Go.Maps Me
set_option maxRecDepth 100000
set_option linter.unusedVariables false

theorem info_ptr : (Tryz.prog.info? 179).map (fun i => (i.zero, i.size, i.bytes)) = some (some (.pointer none), 1, 8) := by kernel_rfl
section
variable {base : Nat} {w w' : World} {v : Value} {H : List Od}
theorem run_append_po (t ty : TypeId) (ht : Tryz.prog.underlying t = some (.slice 179)) (hown : PO base w v H) (g off c : Nat) (o : Od) (hc : w.cell? ⟨g, off, none⟩ = some (.pointer (some ⟨o.p, 0, none⟩))) (hlen : H.length ≤ 1000000) (hbase : base ≤ w.heap.size) :
    ∃ v' w', (Builtin.append_ #[t, t] ty #[v, .slice (some ⟨g, off, none⟩) 1 c]).run Tryz.prog w = .ok v' w' ∧ PO base w' v' (H ++ [o]) ∧ Stay (fun k => v.ownBlock = some k) w w' ∧ (v'.ownBlock = v.ownBlock ∨ v'.ownBlock = some w.heap.size) := by
  obtain ⟨i0, hi, hz, hsize, hby⟩ := info_parts info_ptr
  obtain ⟨v', w', h1, h2, h3, _, h5⟩ := run_append_own_at (P := Tryz.prog) w base t ty _ i0 (.pointer none) 1 8 ht hi hz hsize hby rfl (by decide) v H.length (cellsP H) hown ⟨g, off, none⟩ 1 c [.pointer (some ⟨o.p, 0, none⟩)] rfl
    (fun j u hu => by
      have hj : j = 0 := by
        have := (List.getElem?_eq_some_iff.1 hu).1
        simp at this
        omega
      subst hj
      simp at hu
      rw [← hu, add_at]
      exact hc) (fun u hu => by simp at hu; subst hu; rfl) (by unfold maxLen; omega) (by omega) hbase
  refine ⟨v', w', h1, ?_, Stay.grown h3 (fun k hk => hk), h5⟩
  unfold PO
  rw [List.length_append, List.length_singleton]
  have : cellsP (H ++ [o]) = cellsP H ++ [.pointer (some ⟨o.p, 0, none⟩)] := by simp [cellsP, ptrV]
  rw [this]
  exact h2
theorem step_append_po {ops : Array Oper} {o : Oper} {a : Act} {K : Act → World → Prop} {Q : Exit → Act → World → Prop} {E : Prop} (hgd : o.guard = none) (s y : Operand) (t : TypeId)
    (ho : o.op = .call { callee := .builtin .append, args := #[s, y], argTypes := #[t, t] }) (ht : Tryz.prog.underlying t = some (.slice 179)) (g off c : Nat) (od : Od) (hs : a.eval s = v) (hy : a.eval y = .slice (some ⟨g, off, none⟩) 1 c) (hown : PO base w v H) (hc : w.cell? ⟨g, off, none⟩ = some (.pointer (some ⟨od.p, 0, none⟩))) (hlen : H.length ≤ 1000000) (hbase : base ≤ w.heap.size)
    (h : ∀ v' w', PO base w' v' (H ++ [od]) → Stay (fun k => v.ownBlock = some k) w w' → (v'.ownBlock = v.ownBlock ∨ v'.ownBlock = some w.heap.size) → K (a.put o.dst v') w') :
    if Region.wanted o (yielded ops a.tmps) = true then Oper.wp Tryz.prog o a w K Q else E := by
  have hw : Region.wanted o (yielded ops a.tmps) = true := by simp [Region.wanted, hgd]
  rw [if_pos hw]
  obtain ⟨v', w', hrun, h2, h3, h4⟩ := run_append_po t o.type ht hown g off c od hc hlen hbase
  unfold Oper.wp execOp
  simp only [ho, resolve, invoke, builtin, Sem.run_bind, Sem.run_pure, Result.andThen_ok, List.map_toArray, List.map_cons, List.map_nil, hs, hy, hrun]
  exact h v' w' h2 h3 h4
end

theorem PO.tyb {base : Nat} {w : World} {v : Value} {H : List Od} (h : PO base w v H) : ∀ k, v.ownBlock = some k → ∃ cs fr, w.heap[k]? = some (.cells cs 179 fr) := by
  intro k hk
  rcases h.2 with ⟨e, _⟩ | ⟨g', cap, cur, e, h4, hg, _⟩
  · rw [e] at hk; cases hk
  · rw [e] at hk
    have hk' : g' = k := Option.some.inj hk
    subst hk'
    exact ⟨_, _, hg⟩
/-- A reader whose row of pointers was laid anew. -/
theorem RdAt.reset {A : Nat → Prop} {w w1 : World} {r : Nat} {H H' : List Od} {v v1 : Value} (h : RdAt A w r H) (hr : w.heap[r]? = some (.cells #[v] 177 (0, 0))) (hP : PO 0 w v H) (hv : ∀ k, v.ownBlock = some k → A k)
    (hs : Stay (fun k => v.ownBlock = some k) w w1) (hO : PO 0 w1 v1 H') (hb : v1.ownBlock = v.ownBlock ∨ ∀ k, v1.ownBlock = some k → w.heap.size ≤ k)
    (hod : ∀ q ∈ H', OdAt w q ∧ A q.p ∧ q.l ≠ [] ∧ ∀ k, q.v.ownBlock = some k → A k) (hnd : (H'.map (·.p)).Nodup) :
    RdAt (fun k => A k ∨ w.heap.size ≤ k) (w1.setCell ⟨r, 0, none⟩ v1) r H' ∧ Stay A w (w1.setCell ⟨r, 0, none⟩ v1) := by
  have hrl := h.lt
  have hvr : ∀ k, v.ownBlock = some k → k ≠ r := fun k hk => by
    obtain ⟨cs, fr, hg⟩ := hP.tyb k hk
    exact ne_ty hg hr (by decide)
  have hr1 : w1.heap[r]? = some (.cells #[v] 177 (0, 0)) := (hs.block r hrl (fun hk => hvr r hk rfl)).trans hr
  have hst : Stay (fun k => v.ownBlock = some k ∨ k = r) w (w1.setCell ⟨r, 0, none⟩ v1) := (hs.mono (fun k hk => .inl hk)).trans (Stay.setCell _ _ _ (.inr rfl))
  refine ⟨⟨⟨v1, ?_, hO.stay (Stay.setCell (X := (· = r)) _ _ _ (by rfl)) (fun k hk => ?_), fun k hk => ?_⟩, fun q hq => ?_, hnd, .inl h.rr⟩, hst.mono (fun k hk => ?_)⟩
  · rw [heap_setCell_same w1 r 0 _ _ _ hr1]
    rfl
  · rcases hb with e | hb
    · rw [e] at hk; exact hvr k hk
    · have := hb k hk
      intro e
      omega
  · rcases hb with e | hb
    · rw [e] at hk; exact .inl (hv k hk)
    · exact .inr (hb k hk)
  · obtain ⟨h4, h5, h6, h7⟩ := hod q hq
    refine ⟨h4.stay hst (fun hk => ?_) (fun k hk hx => ?_), .inl h5, h6, fun k hk => .inl (h7 k hk)⟩
    · rcases hk with hk | hk
      · obtain ⟨cs, fr, hg⟩ := hP.tyb _ hk
        exact ne_ty h4.g hg (by decide) rfl
      · exact ne_ty h4.g hr (by decide) hk
    · obtain ⟨cs, fr, hg⟩ := h4.e.2 k hk
      rcases hx with hx | hx
      · obtain ⟨cs', fr', hg'⟩ := hP.tyb _ hx
        exact ne_ty hg hg' (by decide) rfl
      · exact ne_ty hg hr (by decide) hx
  · rcases hk with hk | rfl
    · exact hv k hk
    · exact h.rr
theorem run_ta (w : World) (p : Nat) : (Instr.typeAssert (.iface 179 (.pointer (some ⟨p, 0, none⟩))) 20 179 false).run Tryz.prog w = .ok (.pointer (some ⟨p, 0, none⟩)) w := by kernel_rfl
set_option maxHeartbeats 1000000 in
theorem opush_any (A : Nat → Prop) (w : World) (r : Nat) (H : List Od) (o : Od) (h : RdAt A w r H) (ho : OdAt w o) (hA : A o.p) (hl : o.l ≠ []) (hb : ∀ k, o.v.ownBlock = some k → A k) (hnd : ∀ q ∈ H, q.p ≠ o.p) (hlen : H.length ≤ 1000000) :
    Calls Tryz.prog 196 #[.pointer (some ⟨r, 0, none⟩), .iface 179 (.pointer (some ⟨o.p, 0, none⟩))] w fun e w' => e = .returned (.tuple #[]) ∧ RdAt (fun k => A k ∨ w.heap.size ≤ k) w' r (H ++ [o]) ∧ Stay A w w' := by
  have HR := Lib.hid h
  obtain ⟨v, hr, hP, hv⟩ := h.ex
  have HP := Lib.hid hP
  have HV := Lib.hid hv
  have HG := Lib.hid hr
  have c0 : w.cell? ⟨r, 0, none⟩ = some v := by rw [cell_of_row w r 0 _ _ _ hr]; rfl
  have f0 := frozen_of_row w r 0 _ _ hr
  obtain ⟨a0, c, rfl⟩ := hP.form
  have HRO := Lib.hid (show ¬ (Value.slice a0 H.length c).ownBlock = some r from fun hk => by
    obtain ⟨cs, fr, hg⟩ := hP.tyb _ hk
    exact ne_ty hr hg (by decide) rfl)
  clear hP hr hv h
  have hta := fun (w : World) => run_ta w o.p
  have hrl := HR.out.lt
  have hrn : ¬ r = w.heap.size := by omega
  go_enter Tryz.func196, Tryz.ntmps196
  go_wp2
  go_region_law (refine step_append_po rfl (.tmp 7) (.tmp 10) 175 rfl Tryz.underlying175 w.heap.size 0 1 o rfl rfl ((HP.out.stay0 Stay.drew).stay0 (Stay.alloc _ _)) (by simp) hlen (by simp) ?_; intro v1 w1 hown1 hs1 hb1; have HS1 := Lib.hid ((Stay.drew.trans (Stay.alloc _ _)).trans hs1); have HO1 := Lib.hid hown1; have HB1 := Lib.hid hb1; have hr1 := (HS1.out.block r HR.out.lt HRO.out).trans HG.out; have d0 := cell_of_row w1 r 0 _ _ _ hr1; have f1 := frozen_of_row w1 r 0 _ _ hr1; have HG1 := Lib.hid hr1; obtain ⟨b1, c1, rfl⟩ := hown1.form; clear hown1 hs1 hb1 hr1)
  all_goals
    have hE : Value.slice b1 (H.length + 1) c1 = Value.slice b1 (H ++ [o]).length c1 := by rw [List.length_append, List.length_singleton]
    rw [hE]
    obtain ⟨k1, k2⟩ := HR.out.reset HG.out HP.out HV.out HS1.out HO1.out (HB1.out.imp (fun e => e) (fun e k hk => by rw [e] at hk; simp at hk; omega)) (fun q hq => by
      rcases List.mem_append.1 hq with hq | hq
      · exact HR.out.od q hq
      · rw [List.mem_singleton.1 hq]; exact ⟨ho, hA, hl, hb⟩) (by
      rw [List.map_append, List.nodup_append]
      refine ⟨HR.out.nd, by simp, fun a ha b hb' => ?_⟩
      obtain ⟨q, hq, rfl⟩ := List.mem_map.1 ha
      simp at hb'
      rw [hb']
      exact hnd q hq)
    exact bodyPost_end (results_none rfl _ _ _) rfl ⟨rfl, k1, k2⟩
end Go.Proofs.YtljlfdhjolcnaaaGreat.Mg

/-
  merge: the last pointer taken off (slices.Delete, Pop); the heap's Push and Pop.
-/
namespace Go.Proofs.YtljlfdhjolcnaaaGreat.Mg
open Go.RowKit Go.Maps Me
set_option maxRecDepth 100000
set_option linter.unusedVariables false

theorem zero_ptr (w : World) : (zeroValue 179).run Tryz.prog w = .ok (.pointer none) w := by kernel_rfl
theorem run_clear_one {P : Program} (w w' : World) (t ty e : TypeId) (g off cap : Nat) (z : Value) (ht : P.underlying t = some (.slice e)) (hz : (zeroValue e).run P w = .ok z w)
    (hst : (storeCells ⟨g, off, none⟩ (Builtin.zeroCells z.cells 1).toList).run P w = .ok () w') : (Builtin.clear_ #[t] ty #[.slice (some ⟨g, off, none⟩) 1 cap]).run P w = .ok (.tuple #[]) w' := by
  simp [Builtin.clear_, run_underlying ht, hz, hst, Result.andThen]
theorem PO.take {base : Nat} {w : World} {g n c : Nat} {H : List Od} (h : PO base w (.slice (some ⟨g, 0, none⟩) n c) H) {k : Nat} (hk : k ≤ H.length) : PO base w (.slice (some ⟨g, 0, none⟩) k c) (H.take k) := by
  have hl : (H.take k).length = k := by rw [List.length_take]; omega
  unfold PO
  rw [hl]
  refine ⟨by rw [len_P, hl, Nat.mul_one], ?_⟩
  rcases h.2 with ⟨e, _⟩ | ⟨g', cap, cur, e, h4, hg, h5, h6, h7, h8⟩
  · cases e
  · cases e
    refine .inr ⟨g, c, cur, rfl, h4, hg, by omega, h6, h7, ?_⟩
    have : cellsP (H.take k) = (cellsP H).take k := by simp [cellsP, List.map_take]
    rw [this, ← h8, List.take_take]
    congr 1
    omega
/-- The one behind the last is let go. -/
theorem run_clear_po {base : Nat} {w : World} {g n c : Nat} {H : List Od} (t ty : TypeId) (ht : Tryz.prog.underlying t = some (.slice 179)) (h : PO base w (.slice (some ⟨g, 0, none⟩) n c) H) (hn : n = H.length) (hc : n + 1 ≤ c) (cap : Nat) :
    ∃ w', (Builtin.clear_ #[t] ty #[.slice (some ⟨g, n, none⟩) 1 cap]).run Tryz.prog w = .ok (.tuple #[]) w' ∧ PO base w' (.slice (some ⟨g, 0, none⟩) n c) H ∧ Stay (· = g) w w' := by
  subst hn
  rcases h.2 with ⟨e, _⟩ | ⟨g', cap', cur, e, h4, hg, h5, h6, h7, h8⟩
  · cases e
  · cases e
    have hst := run_storeCells_at Tryz.prog g H.length 179 [.pointer none] 0 cur w hg (by simp; omega) (fun u hu => by simp at hu; subst hu; rfl)
    simp only [Nat.add_zero] at hst
    rw [← show (Builtin.zeroCells (Value.pointer none).cells 1).toList = [Value.pointer none] by kernel_rfl] at hst
    have hrun := run_clear_one w _ t ty _ g H.length cap (.pointer none) ht (zero_ptr w) hst
    rw [show (Builtin.zeroCells (Value.pointer none).cells 1).toList = [Value.pointer none] by kernel_rfl] at hrun
    refine ⟨_, hrun, ?_, Stay.setRow w g _ rfl⟩
    refine ⟨h.1, .inr ⟨g, c, _, rfl, h4, setRow_heap w g cur _ _ _ hg, h5, h6, ?_, ?_⟩⟩
    · simp only [List.size_toArray, List.length_append, List.length_take, List.length_drop, Array.length_toList, List.length_singleton]
      omega
    · rw [← h8]
      simp only [Nat.mul_one]
      rw [List.append_assoc, List.take_left']
      have hal := Array.length_toList (xs := cur)
      rw [List.length_take]
      omega
theorem wpList_clear_po {ops : Array Oper} {rest : List Oper} {o : Oper} {a : Act} {w : World} {Q : Exit → Act → World → Prop} (hgd : o.guard = none) (m : Operand) (t : TypeId) (ho : o.op = Op.call { callee := Callee.builtin Builtin.clear, args := #[m], argTypes := #[t] }) (ht : Tryz.prog.underlying t = some (.slice 179))
    (g n c cap : Nat) (H : List Od) (hm : a.eval m = .slice (some ⟨g, n, none⟩) 1 cap) (h : PO 0 w (.slice (some ⟨g, 0, none⟩) n c) H) (hn : n = H.length) (hc : n + 1 ≤ c)
    (hK : ∀ w', PO 0 w' (.slice (some ⟨g, 0, none⟩) n c) H → Stay (· = g) w w' → wpList Tryz.prog ops Q rest (a.put o.dst (.tuple #[])) w') : wpList Tryz.prog ops Q (o :: rest) a w := by
  obtain ⟨w', hrun, h1, h2⟩ := run_clear_po t o.type ht h hn hc cap
  refine wpList_plain hgd fun K' hK' => ?_
  unfold Oper.wp
  simp [execOp, ho, resolve, invoke, builtin, hm, hrun, Result.andThen]
  exact hK' _ _ (hK _ h1 h2)
/-- Nothing put behind pointers: the same. -/
theorem step_append_no {ops : Array Oper} {o : Oper} {a : Act} {w : World} {K : Act → World → Prop} {Q : Exit → Act → World → Prop} {E : Prop} (hgd : o.guard = none) (s y : Operand) (t : TypeId)
    (ho : o.op = .call { callee := .builtin .append, args := #[s, y], argTypes := #[t, t] }) (ht : Tryz.prog.underlying t = some (.slice 179)) (g n c : Nat) (ad : Addr) (c2 : Nat) (H : List Od) (hs : a.eval s = .slice (some ⟨g, 0, none⟩) n c) (hy : a.eval y = .slice (some ad) 0 c2) (hn : n = H.length) (hnc : n ≤ c) (h : PO 0 w (.slice (some ⟨g, 0, none⟩) n c) H)
    (hK : ∀ w', PO 0 w' (.slice (some ⟨g, 0, none⟩) n c) H → Stay (· = g) w w' → K (a.put o.dst (.slice (some ⟨g, 0, none⟩) n c)) w') :
    if Region.wanted o (yielded ops a.tmps) = true then Oper.wp Tryz.prog o a w K Q else E := by
  have hw : Region.wanted o (yielded ops a.tmps) = true := by simp [Region.wanted, hgd]
  rw [if_pos hw]
  obtain ⟨i0, hi, hz, hsize, hby⟩ := info_parts info_ptr
  subst hn
  obtain ⟨w', hrun, h2, h3⟩ := run_append_fits (P := Tryz.prog) w 0 t o.type _ i0 1 ht hi hsize g H.length c (cellsP H) h ad 0 c2 [] rfl (fun j u hu => by simp at hu) (fun u hu => by simp at hu) hnc
  unfold Oper.wp execOp
  simp only [ho, resolve, invoke, builtin, Sem.run_bind, Sem.run_pure, Result.andThen_ok, List.map_toArray, List.map_cons, List.map_nil, hs, hy, hrun]
  refine hK w' ?_ (Stay.grown h3 (fun k hk => (Option.some.inj hk).symm))
  rw [List.append_nil] at h2
  exact h2

set_option maxHeartbeats 1000000 in
theorem delete_any (w : World) (g n c : Nat) (H : List Od) (hn : H.length = n + 1) (hnc : n + 1 ≤ c) (hcm : c ≤ 9223372036854775807) (h : PO 0 w (.slice (some ⟨g, 0, none⟩) (n + 1) c) H) :
    Calls Tryz.prog 197 #[.slice (some ⟨g, 0, none⟩) (n + 1) c, .int .i64 (n : Int), .int .i64 ((n : Int) + 1)] w fun e w' => e = .returned (.slice (some ⟨g, 0, none⟩) n c) ∧ PO 0 w' (.slice (some ⟨g, 0, none⟩) n c) (H.take n) ∧ Stay (· = g) w w' := by
  have HP := Lib.hid (h.take (k := n) (by omega))
  have hl : n = (H.take n).length := by rw [List.length_take]; omega
  have HL := Lib.hid hl
  generalize H.take n = T at *
  clear h hn hl
  have hnc0 : n ≤ c := by omega
  have hI1 : (n : Int) ≤ (n : Int) + 1 := by omega
  have hI2 : (0 : Int) ≤ (n : Int) + 1 := by omega
  by_cases hce : c = n + 1
  · subst hce
    go_enter Tryz.func197, Tryz.ntmps197
    go_wp2
    go_region_law (refine step_append_no rfl (.tmp 22) (.tmp 25) 175 rfl Tryz.underlying175 g n (n + 1) ⟨g, 0, none⟩ 0 T rfl rfl HL.out (by omega) (HP.out.stay0 Stay.drew) ?_; intro w1 hP1 hs1; have HP1 := Lib.hid hP1; have HS1 := Lib.hid (Stay.drew.trans hs1); clear hP1 hs1)
    go_frame
    go_wp2_with (refine wpList_clear_po rfl (.tmp 31) 175 rfl Tryz.underlying175 g n (n + 1) 1 T rfl HP1.out HL.out (by omega) ?_; intro w2 hP2 hs2; have HP2 := Lib.hid hP2; have HS2 := Lib.hid (HS1.out.trans hs2); clear hP2 hs2)
    go_ret
    exact ⟨rfl, HP2.out, HS2.out⟩
  · obtain ⟨d, hd⟩ : ∃ d, c - (n + 1) = d := ⟨_, rfl⟩
    have hd0 : ¬ d = 0 := by omega
    obtain ⟨d1, hd1⟩ : ∃ d1, c - n = d1 := ⟨_, rfl⟩
    go_enter Tryz.func197, Tryz.ntmps197
    go_wp2
    go_region_law (fail)
    have HP1 := Lib.hid (HP.out.stay0 (Stay.drew (w := w)))
    have HS1 := Lib.hid (Stay.drew (X := (· = g)) (w := w))
    go_frame
    go_wp2_with (refine wpList_clear_po rfl (.tmp 31) 175 rfl Tryz.underlying175 g n c d1 T rfl HP1.out HL.out (by omega) ?_; intro w2 hP2 hs2; have HP2 := Lib.hid hP2; have HS2 := Lib.hid (HS1.out.trans hs2); clear hP2 hs2)
    go_ret
    exact ⟨rfl, HP2.out, HS2.out⟩
end Go.Proofs.YtljlfdhjolcnaaaGreat.Mg

/-
  merge: the heap's Push and Pop.
-/
namespace Go.Proofs.YtljlfdhjolcnaaaGreat.Mg
open Go.RowKit Go.Maps Me
set_option maxRecDepth 100000
set_option linter.unusedVariables false

theorem nodup_take {H : List Od} {n : Nat} (h : (H.map (·.p)).Nodup) : ((H.take n).map (·.p)).Nodup := by
  rw [List.map_take]
  exact List.Sublist.nodup (List.take_sublist _ _) h

set_option maxHeartbeats 1000000 in
theorem opop_any (A : Nat → Prop) (w : World) (r n : Nat) (H : List Od) (o : Od) (h : RdAt A w r H) (hn : H.length = n + 1) (ho : H[n]? = some o) (hlen : n ≤ 1000000) :
    Calls Tryz.prog 195 #[.pointer (some ⟨r, 0, none⟩)] w fun e w' => e = .returned (.iface 179 (.pointer (some ⟨o.p, 0, none⟩))) ∧ RdAt (fun k => A k ∨ w.heap.size ≤ k) w' r (H.take n) ∧ OdAt w' o ∧ Stay A w w' := by
  have HR := Lib.hid h
  obtain ⟨g, c, hr, hP, hA, hc1, hc2⟩ := h.row (by omega)
  rw [hn] at hr hP hc1
  have HP := Lib.hid hP
  have HG := Lib.hid hr
  have HA := Lib.hid hA
  have c0 : w.cell? ⟨r, 0, none⟩ = some (.slice (some ⟨g, 0, none⟩) (n + 1) c) := by rw [cell_of_row w r 0 _ _ _ hr]; rfl
  have cn := hP.cell ho
  have HO := Lib.hid (h.at ho)
  have HRG := Lib.hid (show r ≠ g from by obtain ⟨cs, fr, hg⟩ := hP.ty; exact ne_ty hr hg (by decide))
  have HOG := Lib.hid (show o.p ≠ g from by obtain ⟨cs, fr, hg⟩ := hP.ty; exact ne_ty (h.at ho).1.g hg (by decide))
  have HD := Lib.hid (delete_any w g n c H hn hc1 hc2 hP)
  have HN := Lib.hid hn
  have hI1 : (n : Int) ≤ 1000000 := by omega
  generalize hop : o.p = p at *
  have HOP := Lib.hid hop
  clear hP hr h hA hn ho hop
  go_enter Tryz.func195, Tryz.ntmps195
  go_wp2_with (go_at_call 197; refine HD.out.mono ?_; rintro e w1 ⟨rfl, hP1, hs1⟩; have HP1 := Lib.hid hP1; have HS1 := Lib.hid hs1; have hr1 := (hs1.block r HR.out.lt HRG.out).trans HG.out; have d0 := cell_of_row w1 r 0 _ _ _ hr1; have f1 := frozen_of_row w1 r 0 _ _ hr1; clear hP1 hs1 hr1)
  go_ret
  obtain ⟨k1, k2⟩ := HR.out.reset (H' := H.take n) HG.out HP.out (fun k hk => by cases hk; exact HA.out) (HS1.out.mono (fun k hk => by subst hk; rfl)) HP1.out (.inl rfl) (fun q hq => HR.out.od q (List.mem_of_mem_take hq)) (nodup_take HR.out.nd)
  refine ⟨rfl, k1, ?_, k2⟩
  have hst : Stay (fun k => k = g ∨ k = r) w (w1.setCell ⟨r, 0, none⟩ (.slice (some ⟨g, 0, none⟩) n c)) := (HS1.out.mono (fun k hk => .inl hk)).trans (Stay.setCell _ _ _ (.inr rfl))
  obtain ⟨cs, fr, hg⟩ := HP.out.ty
  refine HO.out.1.stay hst (fun hk => ?_) (fun k hk hx => ?_)
  · rcases hk with hk | hk
    · exact ne_ty HO.out.1.g hg (by decide) hk
    · exact ne_ty HO.out.1.g HG.out (by decide) hk
  · obtain ⟨cs', fr', hg'⟩ := HO.out.1.e.2 k hk
    rcases hx with hx | hx
    · exact ne_ty hg' hg (by decide) hx
    · exact ne_ty hg' HG.out (by decide) hx

/-- What Pop of a heap leaves. -/
structure Popped (A : Nat → Prop) (w w' : World) (r : Nat) (H H' : List Od) (o : Od) : Prop where
  perm : H.Perm (o :: H')
  min : ∀ b ∈ H, lessO b o = false
  heap : HF H' 0 H'.length
  rd : RdAt (fun k => A k ∨ w.heap.size ≤ k) w' r H'
  od : OdAt w' o
  ok : A o.p ∧ o.l ≠ [] ∧ ∀ k, o.v.ownBlock = some k → A k
  st : Stay A w w'
set_option maxHeartbeats 1000000 in
theorem hpop_any (A : Nat → Prop) (w : World) (r n : Nat) (H : List Od) (h : RdAt A w r H) (hn : H.length = n + 1) (hf : HF H 0 H.length) (hlen : n ≤ 100000) :
    Calls Tryz.prog 145 #[hv r] w fun e w' => ∃ o H', e = .returned (.iface 179 (.pointer (some ⟨o.p, 0, none⟩))) ∧ Popped A w w' r H H' o := by
  obtain ⟨o, ho⟩ : ∃ o, H[0]? = some o := ⟨_, List.getElem?_eq_getElem (by omega)⟩
  have HO := Lib.hid ho
  have HR := Lib.hid h
  have HN := Lib.hid hn
  have HFF := Lib.hid hf
  obtain ⟨g, c, hr, hP, hA, hc1, hc2⟩ := h.row (by omega)
  rw [hn] at hr hP hc1
  have hl := len_any w _ H hP
  rw [hn] at hl
  have HL := Lib.hid hl
  have hm := meth_len _ _ _ hr
  have hm2 := meth_swap _ _ _ hr
  have HG := Lib.hid hr
  have HP := Lib.hid hP
  have HA := Lib.hid hA
  have HSW := Lib.hid (rd_swap (i := 0) (j := n) hn.symm h hr hP hA (by omega) (by omega))
  have hnI : (n : Int) ≤ 100000 := by omega
  have hpl := fun W => meth_pop W r
  clear h hn hf ho hr hP hA hl hc1 hc2
  unfold hv
  go_enter Tryz.func145, Tryz.ntmps145
  go_wp2_with fail
  refine HL.out.mono ?_
  rintro e w' ⟨rfl, hw⟩
  rw [hw]
  clear hm hw
  go_wp2_with fail
  refine HSW.out.mono ?_
  rintro e w1 ⟨rfl, hR1, hr1, hs1⟩
  have HR1 := Lib.hid hR1
  have HS1 := Lib.hid hs1
  clear hR1 hr1 hs1 hm2
  go_wp2_with fail
  refine (down_any A w1 r (swapL H 0 n) 0 n HR1.out (by rw [swap_len, HN.out]; omega) (by rw [swap_len, HN.out]; omega) (Nat.zero_le _) (fun j a b h0 h1 h2 ha hb => ?_)).mono ?_
  · rw [swap_at (by have := HN.out; omega) (by have := HN.out; omega), if_neg (by omega), if_neg (by omega)] at ha hb
    exact HFF.out j a b h0 (by have := HN.out; omega) (Nat.zero_le _) ha hb
  rintro e w2 ⟨b, H2, rfl, hR2, hP2, hK2, hF2, hS2⟩
  have HR2 := Lib.hid hR2
  have HP2 := Lib.hid hP2
  have HK2 := Lib.hid hK2
  have HF2 := Lib.hid hF2
  have HS2 := Lib.hid hS2
  clear hR2 hP2 hK2 hF2 hS2
  have HL2 := Lib.hid (show H2.length = n + 1 by rw [HP2.out.length_eq, swap_len, HN.out])
  have HO2 := Lib.hid (show H2[n]? = some o by rw [HK2.out n (Nat.le_refl _), swap_at (by have := HN.out; omega) (by have := HN.out; omega), if_pos rfl]; exact HO.out)
  go_wp2_with fail
  refine (opop_any A w2 r n H2 o HR2.out HL2.out HO2.out (by omega)).mono ?_
  rintro e w3 ⟨rfl, hR3, hO3, hS3⟩
  have HR3 := Lib.hid hR3
  have HO3 := Lib.hid hO3
  have HS3 := Lib.hid hS3
  clear hR3 hO3 hS3
  go_wp2
  go_ret
  have hst := (HS1.out.trans HS2.out).trans HS3.out
  have hsz : w.heap.size ≤ w2.heap.size := (HS1.out.trans HS2.out).size
  have hlt : (H2.take n).length = n := by rw [List.length_take, HL2.out]; omega
  have hsplit : H2 = H2.take n ++ [o] := by
    have h1 := List.take_append_drop n H2
    rw [List.drop_eq_getElem?_toList_append, HO2.out, List.drop_eq_nil_of_le (by rw [HL2.out]; omega)] at h1
    simpa using h1.symm
  refine ⟨o, H2.take n, rfl, ⟨?_, fun b hb => ?_, ?_, ?_, HO3.out, (HR.out.at HO.out).2, hst⟩⟩
  · have h1 : H2.Perm H := HP2.out.trans (swap_perm _ _ _)
    refine h1.symm.trans ?_
    rw [hsplit]
    conv => rhs; rw [← hsplit]
    exact List.perm_append_comm
  · obtain ⟨i, hi, rfl⟩ := List.getElem_of_mem hb
    exact HFF.out.min HO.out i _ hi (Nat.le_refl _) (List.getElem?_eq_getElem hi)
  · rw [hlt]
    intro j a b h0 h1 h2 ha hb
    rw [List.getElem?_take_of_lt (by omega)] at ha hb
    exact HF2.out j a b h0 h1 h2 ha hb
  · exact HR3.out.mono (fun k _ hk => hk.imp (fun x => x) (fun x => Nat.le_trans hsz x))

set_option maxHeartbeats 1000000 in
theorem hpush_any (A : Nat → Prop) (w : World) (r : Nat) (H : List Od) (o : Od) (h : RdAt A w r H) (hf : HF H 0 H.length) (ho : OdAt w o) (hA : A o.p) (hl : o.l ≠ []) (hb : ∀ k, o.v.ownBlock = some k → A k) (hnd : ∀ q ∈ H, q.p ≠ o.p) (hlen : H.length ≤ 100000) :
    Calls Tryz.prog 146 #[hv r, .iface 179 (.pointer (some ⟨o.p, 0, none⟩))] w fun e w' => ∃ H', e = .returned (.tuple #[]) ∧ H'.Perm (o :: H) ∧ HF H' 0 H'.length ∧ RdAt (fun k => A k ∨ w.heap.size ≤ k) w' r H' ∧ Stay A w w' := by
  have HPU := Lib.hid (opush_any A w r H o h ho hA hl hb hnd (by omega))
  have HU := Lib.hid (Up.begin hf o)
  have hpl := fun W => meth_push W r
  have hnI : (H.length : Int) ≤ 100000 := by omega
  have HB := Lib.hid hlen
  clear h hf ho hA hl hb hnd hlen
  unfold hv
  go_enter Tryz.func146, Tryz.ntmps146
  go_wp2_with fail
  refine HPU.out.mono ?_
  rintro e w1 ⟨rfl, hR1, hS1⟩
  have HR1 := Lib.hid hR1
  have HS1 := Lib.hid hS1
  obtain ⟨v1, hr1, hP1, _⟩ := hR1.ex
  have hm := meth_len _ _ _ hr1
  have hlen1 := len_any w1 v1 (H ++ [o]) hP1
  rw [List.length_append, List.length_singleton] at hlen1
  have HL1 := Lib.hid hlen1
  clear hR1 hS1 hr1 hP1 hpl hlen1
  go_wp2_with fail
  refine HL1.out.mono ?_
  rintro e w' ⟨rfl, hw⟩
  rw [hw]
  clear hm hw
  have hcast : ((H.length + 1 : Nat) : Int) = (H.length : Int) + 1 := by omega
  go_wp2_with fail
  refine (up_any _ w1 r (H ++ [o]) H.length HR1.out (by rw [List.length_append, List.length_singleton]; omega) (by rw [List.length_append, List.length_singleton]; have := HB.out; omega) HU.out).mono ?_
  rintro e w2 ⟨H2, rfl, hR2, hP2, hF2, hS2⟩
  have HR2 := Lib.hid hR2
  have HP2 := Lib.hid hP2
  have HF2 := Lib.hid hF2
  have HS2 := Lib.hid hS2
  clear hR2 hP2 hF2 hS2
  go_wp2
  refine bodyPost_end (results_none rfl _ _ _) rfl ⟨H2, rfl, HP2.out.trans List.perm_append_comm, HF2.out, HR2.out, HS1.out.andThen HS2.out (fun k hk hA => ?_)⟩
  rcases hA with hA | hA
  · exact hA
  · omega
end Go.Proofs.YtljlfdhjolcnaaaGreat.Mg

/-
  merge: the first entry taken off a reader.
-/
namespace Go.Proofs.YtljlfdhjolcnaaaGreat.Mg
open Go.RowKit Go.Maps Me
set_option maxRecDepth 100000
set_option linter.unusedVariables false

theorem RdAt.trim {A : Nat → Prop} {w : World} {r : Nat} {H : List Od} (h : RdAt A w r H) : RdAt (fun k => A k ∧ k < w.heap.size) w r H := h.mono (fun k hk hA => ⟨hA, hk⟩)
theorem EnT.cut1 {w : World} {g a c : Nat} {x : En} {t : List En} (h : EnT w (.slice (some ⟨g, a, none⟩) (t.length + 1) c) (x :: t)) (hc : ¬ c = 1) : EnT w (.slice (some ⟨g, a + 3, none⟩) t.length (c - 1)) t := by
  have h1 := h.1.cut (i := 1) (by simp)
  rw [if_neg hc, Option.map_some, add_at] at h1
  exact ⟨h1, fun k hk => h.2 k hk⟩
theorem EnT.lt {w : World} {v : Value} {L : List En} (h : EnT w v L) : ∀ k, v.ownBlock = some k → k < w.heap.size := fun k hk => by
  obtain ⟨cs, fr, hg⟩ := h.2 k hk
  exact (Array.getElem?_eq_some_iff.1 hg).1
theorem OdAt.turn {w w' : World} {o : Od} {v : Value} {L : List En} (h : OdAt w o) (hw : w' = w.setCell ⟨o.p, 0, none⟩ v) (he : EnT w v L) : OdAt w' ⟨o.p, v, o.n, L⟩ := by
  subst hw
  refine ⟨?_, he.stay (Stay.setCell (X := (· = o.p)) _ _ _ (by rfl)) (fun k hk => ?_)⟩
  · show (w.setCell ⟨o.p, 0, none⟩ v).heap[o.p]? = _
    rw [heap_setCell_same w o.p 0 _ _ _ h.g]
    rfl
  · obtain ⟨cs, fr, hg⟩ := he.2 k hk
    exact ne_ty hg h.g (by decide)
theorem RdAt.wo {A : Nat → Prop} {w : World} {r : Nat} {H : List Od} {o : Od} (h : RdAt A w r H) (ho : OdAt w o) (hnd : ∀ q ∈ H, q.p ≠ o.p) : RdAt (fun k => A k ∧ k ≠ o.p) w r H := by
  obtain ⟨v, h1, h2, h3⟩ := h.ex
  refine ⟨⟨v, h1, h2, fun k hk => ⟨h3 k hk, ?_⟩⟩, fun q hq => ?_, h.nd, h.rr, ne_ty h1 ho.g (by decide)⟩
  · obtain ⟨cs, fr, hg⟩ := h2.tyb k hk
    exact ne_ty hg ho.g (by decide)
  · obtain ⟨h4, h5, h6, h7⟩ := h.od q hq
    refine ⟨h4, ⟨h5, hnd q hq⟩, h6, fun k hk => ⟨h7 k hk, ?_⟩⟩
    obtain ⟨cs, fr, hg⟩ := h4.e.2 k hk
    exact ne_ty hg ho.g (by decide)
/-- What taking the first entry leaves. -/
structure Took (A : Nat → Prop) (w w' : World) (r : Nat) (H H' : List Od) (o : Od) (x : En) (t : List En) : Prop where
  l : o.l = x :: t
  ex : ∃ H3 o', H.Perm (o :: H3) ∧ o'.n = o.n ∧ o'.l = t ∧ H'.Perm (if t = [] then H3 else o' :: H3)
  min : ∀ b ∈ H, lessO b o = false
  heap : HF H' 0 H'.length
  rd : RdAt (fun k => A k ∨ w.heap.size ≤ k) w' r H'
  st : Stay A w w'

set_option maxHeartbeats 4000000 in
theorem take_any (A : Nat → Prop) (w : World) (r n : Nat) (H : List Od) (h : RdAt A w r H) (hn : H.length = n + 1) (hf : HF H 0 H.length) (hlen : n ≤ 10000) :
    Calls Tryz.prog 109 #[.pointer (some ⟨r, 0, none⟩)] w fun e w' => ∃ o x t H', e = .returned (enV x) ∧ Took A w w' r H H' o x t := by
  have HBX := Lib.hid (Box.new w ⟨[], [], false⟩)
  have HA := Lib.hid (show Stay (fun _ => False) w (w.alloc (.cells (enC ⟨[], [], false⟩).toArray 42)) from Stay.alloc _ _)
  have HR0 := Lib.hid (h.trim.stay0 HA.out)
  have HSZ := Lib.hid (show (w.alloc (.cells (enC ⟨[], [], false⟩).toArray 42)).heap.size = w.heap.size + 1 by simp)
  obtain ⟨w0, hw0⟩ : ∃ w0, w.alloc (.cells (enC ⟨[], [], false⟩).toArray 42) = w0 := ⟨_, rfl⟩
  rw [hw0] at HBX HA HR0 HSZ
  have W0 := Lib.hid hw0
  have HPOP := Lib.hid (hpop_any _ w0 r n H HR0.out hn hf (by omega))
  have HN := Lib.hid hn
  have HB := Lib.hid hlen
  have hta := fun (W : World) p => run_ta W p
  clear h hn hf hw0 hlen
  go_enter Tryz.func109, Tryz.ntmps109
  go_wp2_with (with_reducible refine alloc_en rfl rfl ?_; rw [W0.out])
  unfold hv at HPOP
  refine HPOP.out.mono ?_
  rintro e w1 ⟨o, H1, rfl, hP⟩
  have HP := Lib.hid hP
  have HBX1 := Lib.hid (HBX.out.stay hP.st (fun hk => Nat.lt_irrefl _ hk.2))
  obtain ⟨x, t, hl⟩ := List.exists_cons_of_ne_nil hP.ok.2.1
  have HL := Lib.hid hl
  obtain ⟨g, a, c, hv1, hg, k0, k1, k2⟩ := hP.od.first hl
  have HV1 := Lib.hid hv1
  have c0 := hP.od.c0
  rw [hv1] at c0
  obtain ⟨hc1, hc2⟩ : t.length + 1 ≤ c ∧ c ≤ 9223372036854775807 := by
    obtain ⟨a0', c', e1, h1, h2, _⟩ := hP.od.e.1
    rw [hv1, hl] at e1
    rw [hl] at h1
    cases e1
    exact ⟨h1, h2⟩
  have kl := Lib.hid (run_load_at k0 k1 k2)
  have HBN := Lib.hid (Box.new w1 ⟨[], [], false⟩)
  have HA2 := Lib.hid (show Stay (fun _ => False) w1 (w1.alloc (.cells (enC ⟨[], [], false⟩).toArray 42)) from Stay.alloc _ _)
  obtain ⟨w2, hw2⟩ : ∃ w2, w1.alloc (.cells (enC ⟨[], [], false⟩).toArray 42) = w2 := ⟨_, rfl⟩
  rw [hw2] at HBN HA2
  have W2 := Lib.hid hw2
  have hI1 : (1 : Int) ≤ (t.length : Int) + 1 := by omega
  clear hP hl hv1 k0 k1 k2 hw2 HPOP
  have HB2 := Lib.hid (show w.heap.size < w1.heap.size from by have := HP.out.st.size; have := HSZ.out; omega)
  have HOP := Lib.hid (show o.p < w.heap.size from HP.out.ok.1.2)
  have HND := Lib.hid (show ∀ q ∈ H1, q.p ≠ o.p from fun q hq e => by
    have h1 := (HP.out.perm.map (·.p)).nodup_iff.1 HR0.out.nd
    rw [List.map_cons, List.nodup_cons] at h1
    exact h1.1 (List.mem_map.2 ⟨q, hq, e⟩))
  have HA7 := Lib.hid (show RdAt (fun k => ((A k ∧ k < w.heap.size) ∨ w0.heap.size ≤ k) ∧ k < w1.heap.size) w1 r H1 from HP.out.rd.trim)
  by_cases hce : c = 1
  · subst hce
    have ht0 : t = [] := List.eq_nil_of_length_eq_zero (by omega)
    have HT0 := Lib.hid ht0
    have htl : t.length = 0 := by rw [ht0]; rfl
    clear ht0
    go_wp2_with (first
      | (with_reducible refine alloc_en rfl rfl ?_; rw [W2.out])
      | (refine wpList_load_run (by rfl) 42 (.tmp 15) rfl ⟨g, a, none⟩ rfl _ kl.out ?_)
      | (refine Box.store HBN.out rfl (.tmp 4) (.tmp 16) rfl rfl x rfl ?_
         intro w3 hb3 hs3
         have hs13 : Stay (· = w1.heap.size) w1 w3 := (HA2.out.mono (fun _ x => x.elim)).trans hs3
         have hod3 := HP.out.od.stay hs13 (fun hk => Nat.lt_irrefl _ (hk ▸ HP.out.od.lt)) (fun k hk hx => Nat.lt_irrefl _ (hx ▸ HP.out.od.e.lt k hk))
         have d0 := hod3.c0
         rw [HV1.out] at d0
         have f0 := hod3.fr 0
         have HS3 := Lib.hid hs13
         have HO3 := Lib.hid hod3
         have HS34 := Lib.hid (show Stay (· = o.p) w3 (w3.setCell ⟨o.p, 0, none⟩ (.slice (some ⟨g, a, none⟩) 0 0)) from Stay.setCell _ _ _ rfl)
         have H4 := Lib.hid (hb3.stay HS34.out (fun e => by have h1 := HP.out.od.lt; have h2 : w1.heap.size = o.p := e; omega))
         have HBX4 := Lib.hid ((HBX1.out.stay hs13 (fun e => by have h1 := HB2.out; have h2 : w.heap.size = w1.heap.size := e; omega)).stay HS34.out (fun e => by have h1 := HOP.out; have h2 : w.heap.size = o.p := e; omega))
         have HA3 := Lib.hid (HA7.out.stay hs13 (fun k hk e => by have h1 := hk.2; have h2 : k = w1.heap.size := e; omega))
         have HA4 := Lib.hid (((HA3.out.wo hod3 HND.out).stay HS34.out (fun k hk e => hk.2 e)).mono (fun k _ hk => hk.1) : RdAt (fun k => ((A k ∧ k < w.heap.size) ∨ w0.heap.size ≤ k) ∧ k < w1.heap.size) _ _ _)
         have HST4 := Lib.hid (show Stay A w (w3.setCell ⟨o.p, 0, none⟩ (.slice (some ⟨g, a, none⟩) 0 0)) from by
           refine (((HA.out.mono (fun _ x => x.elim)).andThen HP.out.st (fun k _ hk => hk.1)).andThen hs13 (fun k hk e => ?_)).andThen HS34.out (fun k hk e => ?_)
           · have h1 := HB2.out; have h2 : k = w1.heap.size := e; omega
           · have h2 : k = o.p := e; subst h2; exact HP.out.ok.1.1)
         clear hb3 hs3 hs13 hod3)
      | (refine wpList_load_run (by rfl) 42 (.tmp 4) rfl ⟨w1.heap.size, 0, none⟩ rfl _ H4.out.run_load ?_)
      | (refine Box.store HBX4.out rfl (.tmp 2) (.tmp 38) rfl rfl x rfl ?_
         intro w6 hb6 hs6
         have H6 := Lib.hid hb6
         have HS6 := Lib.hid hs6
         clear hb6 hs6))
    go_frame
    have hld := H6.out.run_load
    refine bodyPost_ret (v := enV x) (by simp [results, Tryz.results109, asAddr, hld]) rfl ?_
    refine ⟨o, x, t, H1, rfl, HL.out, ⟨H1, ⟨o.p, o.v, o.n, t⟩, HP.out.perm, rfl, rfl, by rw [if_pos HT0.out]⟩, HP.out.min, HP.out.heap, ?_, ?_⟩
    · exact ((HA4.out.stay HS6.out (fun k hk e => by have h2 : k = w.heap.size := e; have h3 := HSZ.out; rcases hk.1 with h | h <;> omega)).mono (fun k _ hk => hk.1.imp (fun h => h.1) (fun h => by have h3 := HSZ.out; omega)))
    · exact HST4.out.andThen HS6.out (fun k hk e => by have h2 : k = w.heap.size := e; omega)
  · by_cases ht : t = []
    · have HT0 := Lib.hid ht
      have htl : t.length = 0 := by rw [ht]; rfl
      clear ht
      go_wp2_with (first
        | (with_reducible refine alloc_en rfl rfl ?_; rw [W2.out])
        | (refine wpList_load_run (by rfl) 42 (.tmp 15) rfl ⟨g, a, none⟩ rfl _ kl.out ?_)
        | (refine Box.store HBN.out rfl (.tmp 4) (.tmp 16) rfl rfl x rfl ?_
           intro w3 hb3 hs3
           have hs13 : Stay (· = w1.heap.size) w1 w3 := (HA2.out.mono (fun _ x => x.elim)).trans hs3
           have hod3 := HP.out.od.stay hs13 (fun hk => Nat.lt_irrefl _ (hk ▸ HP.out.od.lt)) (fun k hk hx => Nat.lt_irrefl _ (hx ▸ HP.out.od.e.lt k hk))
           have d0 := hod3.c0
           rw [HV1.out] at d0
           have f0 := hod3.fr 0
           have HS3 := Lib.hid hs13
           have HO3 := Lib.hid hod3
           have HS34 := Lib.hid (show Stay (· = o.p) w3 (w3.setCell ⟨o.p, 0, none⟩ (.slice (some ⟨g, a + 3, none⟩) 0 (c - 1))) from Stay.setCell _ _ _ rfl)
           have H4 := Lib.hid (hb3.stay HS34.out (fun e => by have h1 := HP.out.od.lt; have h2 : w1.heap.size = o.p := e; omega))
           have HBX4 := Lib.hid ((HBX1.out.stay hs13 (fun e => by have h1 := HB2.out; have h2 : w.heap.size = w1.heap.size := e; omega)).stay HS34.out (fun e => by have h1 := HOP.out; have h2 : w.heap.size = o.p := e; omega))
           have HA3 := Lib.hid (HA7.out.stay hs13 (fun k hk e => by have h1 := hk.2; have h2 : k = w1.heap.size := e; omega))
           have HA4 := Lib.hid (((HA3.out.wo hod3 HND.out).stay HS34.out (fun k hk e => hk.2 e)).mono (fun k _ hk => hk.1) : RdAt (fun k => ((A k ∧ k < w.heap.size) ∨ w0.heap.size ≤ k) ∧ k < w1.heap.size) _ _ _)
           have HST4 := Lib.hid (show Stay A w (w3.setCell ⟨o.p, 0, none⟩ (.slice (some ⟨g, a + 3, none⟩) 0 (c - 1))) from by
             refine (((HA.out.mono (fun _ x => x.elim)).andThen HP.out.st (fun k _ hk => hk.1)).andThen hs13 (fun k hk e => ?_)).andThen HS34.out (fun k hk e => ?_)
             · have h1 := HB2.out; have h2 : k = w1.heap.size := e; omega
             · have h2 : k = o.p := e; subst h2; exact HP.out.ok.1.1)
           clear hb3 hs3 hs13 hod3)
        | (refine wpList_load_run (by rfl) 42 (.tmp 4) rfl ⟨w1.heap.size, 0, none⟩ rfl _ H4.out.run_load ?_)
        | (refine Box.store HBX4.out rfl (.tmp 2) (.tmp 38) rfl rfl x rfl ?_
           intro w6 hb6 hs6
           have H6 := Lib.hid hb6
           have HS6 := Lib.hid hs6
           clear hb6 hs6))
      go_frame
      have hld := H6.out.run_load
      refine bodyPost_ret (v := enV x) (by simp [results, Tryz.results109, asAddr, hld]) rfl ?_
      refine ⟨o, x, t, H1, rfl, HL.out, ⟨H1, ⟨o.p, o.v, o.n, t⟩, HP.out.perm, rfl, rfl, by rw [if_pos HT0.out]⟩, HP.out.min, HP.out.heap, ?_, ?_⟩
      · exact ((HA4.out.stay HS6.out (fun k hk e => by have h2 : k = w.heap.size := e; have h3 := HSZ.out; rcases hk.1 with h | h <;> omega)).mono (fun k _ hk => hk.1.imp (fun h => h.1) (fun h => by have h3 := HSZ.out; omega)))
      · exact HST4.out.andThen HS6.out (fun k hk e => by have h2 : k = w.heap.size := e; omega)
    · have HT := Lib.hid ht
      have htl : (0 : Int) < (t.length : Int) := by have := List.length_pos_iff.2 ht; omega
      have HCE := Lib.hid hce
      clear ht
      go_wp2_with (first
        | (with_reducible refine alloc_en rfl rfl ?_; rw [W2.out])
        | (refine wpList_load_run (by rfl) 42 (.tmp 15) rfl ⟨g, a, none⟩ rfl _ kl.out ?_)
        | (refine Box.store HBN.out rfl (.tmp 4) (.tmp 16) rfl rfl x rfl ?_
           intro w3 hb3 hs3
           have hs13 : Stay (· = w1.heap.size) w1 w3 := (HA2.out.mono (fun _ x => x.elim)).trans hs3
           have hod3 := HP.out.od.stay hs13 (fun hk => Nat.lt_irrefl _ (hk ▸ HP.out.od.lt)) (fun k hk hx => Nat.lt_irrefl _ (hx ▸ HP.out.od.e.lt k hk))
           have d0 := hod3.c0
           rw [HV1.out] at d0
           have f0 := hod3.fr 0
           have HS3 := Lib.hid hs13
           have HO3 := Lib.hid hod3
           have HS34 := Lib.hid (show Stay (· = o.p) w3 (w3.setCell ⟨o.p, 0, none⟩ (.slice (some ⟨g, a + 3, none⟩) t.length (c - 1))) from Stay.setCell _ _ _ rfl)
           have H4 := Lib.hid (hb3.stay HS34.out (fun e => by have h1 := HP.out.od.lt; have h2 : w1.heap.size = o.p := e; omega))
           have HBX4 := Lib.hid ((HBX1.out.stay hs13 (fun e => by have h1 := HB2.out; have h2 : w.heap.size = w1.heap.size := e; omega)).stay HS34.out (fun e => by have h1 := HOP.out; have h2 : w.heap.size = o.p := e; omega))
           have HA3 := Lib.hid (HA7.out.stay hs13 (fun k hk e => by have h1 := hk.2; have h2 : k = w1.heap.size := e; omega))
           have HA4 := Lib.hid (((HA3.out.wo hod3 HND.out).stay HS34.out (fun k hk e => hk.2 e)).mono (fun k _ hk => hk.1) : RdAt (fun k => ((A k ∧ k < w.heap.size) ∨ w0.heap.size ≤ k) ∧ k < w1.heap.size) _ _ _)
           have HST4 := Lib.hid (show Stay A w (w3.setCell ⟨o.p, 0, none⟩ (.slice (some ⟨g, a + 3, none⟩) t.length (c - 1))) from by
             refine (((HA.out.mono (fun _ x => x.elim)).andThen HP.out.st (fun k _ hk => hk.1)).andThen hs13 (fun k hk e => ?_)).andThen HS34.out (fun k hk e => ?_)
             · have h1 := HB2.out; have h2 : k = w1.heap.size := e; omega
             · have h2 : k = o.p := e; subst h2; exact HP.out.ok.1.1)
           have HO4 := Lib.hid (hod3.turn (v := .slice (some ⟨g, a + 3, none⟩) t.length (c - 1)) (L := t) rfl (EnT.cut1 (by have h1 := hod3.e; rw [HV1.out, HL.out] at h1; exact h1) HCE.out))
           have HPUSH := Lib.hid (hpush_any (fun k => ((A k ∧ k < w.heap.size) ∨ w0.heap.size ≤ k) ∧ k < w1.heap.size) _ r H1 ⟨o.p, .slice (some ⟨g, a + 3, none⟩) t.length (c - 1), o.n, t⟩ HA4.out HP.out.heap HO4.out ⟨.inl HP.out.ok.1, HP.out.od.lt⟩ HT.out (fun k hk => ⟨.inl (HP.out.ok.2.2 k (by rw [HV1.out]; exact hk)), HP.out.od.e.lt k (by rw [HV1.out]; exact hk)⟩) HND.out (by have h1 := HP.out.perm.length_eq; rw [HN.out, List.length_cons] at h1; have := HB.out; omega))
           clear hb3 hs3 hs13 hod3)
        | (go_at_call 146
           refine HPUSH.out.mono ?_
           rintro e w5 ⟨H2, rfl, hp5, hf5, hr5, hs5⟩
           have HP5 := Lib.hid hp5
           have HF5 := Lib.hid hf5
           have HR5 := Lib.hid hr5
           have HS5 := Lib.hid hs5
           have H5 := Lib.hid (H4.out.stay hs5 (fun h => Nat.lt_irrefl _ h.2))
           have HBX5 := Lib.hid (HBX4.out.stay hs5 (fun h => by have h3 := HSZ.out; rcases h.1 with h | h <;> omega))
           clear hp5 hf5 hr5 hs5)
        | (refine wpList_load_run (by rfl) 42 (.tmp 4) rfl ⟨w1.heap.size, 0, none⟩ rfl _ H5.out.run_load ?_)
        | (refine Box.store HBX5.out rfl (.tmp 2) (.tmp 38) rfl rfl x rfl ?_
           intro w6 hb6 hs6
           have H6 := Lib.hid hb6
           have HS6 := Lib.hid hs6
           clear hb6 hs6))
      go_frame
      have hld := H6.out.run_load
      refine bodyPost_ret (v := enV x) (by simp [results, Tryz.results109, asAddr, hld]) rfl ?_
      refine ⟨o, x, t, H2, rfl, HL.out, ⟨H1, ⟨o.p, .slice (some ⟨g, a + 3, none⟩) t.length (c - 1), o.n, t⟩, HP.out.perm, rfl, rfl, by rw [if_neg HT.out]; exact HP5.out⟩, HP.out.min, HF5.out, ?_, ?_⟩
      · have hsz : w1.heap.size ≤ (w3.setCell ⟨o.p, 0, none⟩ (.slice (some ⟨g, a + 3, none⟩) t.length (c - 1))).heap.size := Nat.le_trans HS3.out.size HS34.out.size
        refine ((HR5.out.stay HS6.out (fun k hk e => ?_)).mono (fun k _ hk => ?_))
        · have h2 : k = w.heap.size := e
          have h3 := HSZ.out
          have h4 := HB2.out
          rcases hk with hk | hk
          · rcases hk.1 with h | h <;> omega
          · omega
        · have h3 := HSZ.out
          have h4 := HB2.out
          rcases hk with hk | hk
          · exact hk.1.imp (fun h => h.1) (fun h => by omega)
          · exact .inr (by omega)
      · refine (HST4.out.andThen HS5.out (fun k hk h => ?_)).andThen HS6.out (fun k hk e => by have h2 : k = w.heap.size := e; omega)
        have h3 := HSZ.out
        rcases h.1 with h | h
        · exact h.1
        · omega
end Go.Proofs.YtljlfdhjolcnaaaGreat.Mg

/-
  merge: the next entry of a reader.
-/
namespace Go.Proofs.YtljlfdhjolcnaaaGreat.Mg
open Go.RowKit Go.Maps Me
set_option maxRecDepth 100000
set_option linter.unusedVariables false

/-- How many entries are left, as memory tells it. -/
def odLen (w : World) (v : Value) : Nat := match v with
  | .pointer (some ad) => match w.cell? ad with
    | some (.slice _ m _) => m
    | _ => 0
  | _ => 0
def leftW (w : World) (r : Nat) : Nat := match w.cell? ⟨r, 0, none⟩ with
  | some (.slice (some ad) n _) => ((List.range n).map fun j => match w.cell? (ad.add j) with | some v => odLen w v | none => 0).sum
  | _ => 0
theorem RdAt.left {A : Nat → Prop} {w : World} {r : Nat} {H : List Od} (h : RdAt A w r H) : leftW w r = leftO H := by
  by_cases h0 : H.length = 0
  · have : H = [] := List.eq_nil_of_length_eq_zero h0
    subst this
    obtain ⟨v, h1, h2, _⟩ := h.ex
    have c0 : w.cell? ⟨r, 0, none⟩ = some v := by rw [cell_of_row w r 0 _ _ _ h1]; rfl
    obtain ⟨a, c, rfl⟩ := h2.form
    unfold leftW
    rw [c0]
    cases a <;> simp [leftO]
  · obtain ⟨g, c, h1, h2, _⟩ := h.row (by omega)
    have c0 : w.cell? ⟨r, 0, none⟩ = some (.slice (some ⟨g, 0, none⟩) H.length c) := by rw [cell_of_row w r 0 _ _ _ h1]; rfl
    unfold leftW
    rw [c0]
    unfold leftO
    dsimp only
    congr 1
    apply List.ext_getElem
    · simp
    · intro j hj1 hj2
      have hj : j < H.length := by simpa using hj2
      have ho : H[j]? = some H[j] := List.getElem?_eq_getElem hj
      have hc := h2.cell ho
      have hod := (h.at ho).1
      have c1 := hod.c0
      obtain ⟨a0, c', hv⟩ := hod.e.1.form
      rw [hv] at c1
      simp only [List.getElem_map, List.getElem_range, add_at, Nat.zero_add]
      rw [hc]
      simp only [odLen, c1]

/-- A reader of which these entries come. -/
structure RdS (A : Nat → Prop) (w : World) (r : Nat) (L : List En) (N : Nat) : Prop where
  ex : ∃ H, RdAt A w r H ∧ HF H 0 H.length ∧ Good H ∧ Tells (hasO H) L ∧ H.length ≤ N
/-- Behind a key that came. -/
structure RdK (A : Nat → Prop) (w : World) (r : Nat) (k : List UInt8) (L : List En) (N : Nat) (H : List Od) : Prop where
  r : RdAt A w r H
  f : HF H 0 H.length
  g : Good H
  a : Above k (hasO H) L
  n : H.length ≤ N
theorem RdS.stay {A X : Nat → Prop} {w w' : World} {r N : Nat} {L : List En} (h : RdS A w r L N) (hs : Stay X w w') (hx : ∀ k, A k → ¬ X k) : RdS A w' r L N := by
  obtain ⟨H, h1, h2⟩ := h.ex
  exact ⟨H, h1.stay hs hx, h2⟩
theorem RdS.stay0 {A : Nat → Prop} {w w' : World} {r N : Nat} {L : List En} (h : RdS A w r L N) (hs : Stay (fun _ => False) w w') : RdS A w' r L N := h.stay hs (fun _ _ x => x)
theorem RdS.mono {A A' : Nat → Prop} {w : World} {r N : Nat} {L : List En} (h : RdS A w r L N) (hb : ∀ k, k < w.heap.size → A k → A' k) : RdS A' w r L N := by
  obtain ⟨H, h1, h2⟩ := h.ex
  exact ⟨H, h1.mono hb, h2⟩
theorem RdK.stay {A X : Nat → Prop} {w w' : World} {r N : Nat} {k : List UInt8} {L : List En} {H : List Od} (h : RdK A w r k L N H) (hs : Stay X w w') (hx : ∀ k, A k → ¬ X k) : RdK A w' r k L N H := ⟨h.r.stay hs hx, h.f, h.g, h.a, h.n⟩
theorem RdK.mono {A A' : Nat → Prop} {w : World} {r N : Nat} {k : List UInt8} {L : List En} {H : List Od} (h : RdK A w r k L N H) (hb : ∀ k, k < w.heap.size → A k → A' k) : RdK A' w r k L N H := ⟨h.r.mono hb, h.f, h.g, h.a, h.n⟩
theorem Box.set1 {w : World} {g : Nat} {x : En} (h : Box w g x) : Box (w.setCell ⟨g, 1, none⟩ (.string ⟨#[]⟩)) g ⟨x.k, [], x.g⟩ := by
  unfold Box
  rw [heap_setCell_same w g 1 _ _ _ h]
  rfl
theorem took_len {A : Nat → Prop} {w w' : World} {r : Nat} {H H' : List Od} {o : Od} {x : En} {t : List En} (h : Took A w w' r H H' o x t) : H'.length ≤ H.length := by
  obtain ⟨H3, o', h1, _, _, h2⟩ := h.ex
  rw [h1.length_eq, h2.length_eq]
  split <;> simp
theorem took_all {A : Nat → Prop} {w w' : World} {r : Nat} {H H' : List Od} {o : Od} {x : En} {t : List En} (h : Took A w w' r H H' o x t) (hg : Good H) :
    hasO H' = less1 (hasO H) o.n x ∧ Good H' ∧ leftO H' + 1 = leftO H ∧ hasO H o.n x ∧ ∀ n' y, hasO H n' y → ltB y.k x.k = false ∧ (y.k = x.k → o.n ≤ n') := by
  obtain ⟨H3, o', h1, h2, h3, h4⟩ := h.ex
  have hg' := hg.perm h1.symm
  obtain ⟨k1, k2, k3⟩ := took_has hg' h.l h2 h3 h4
  rw [has_perm h1.symm] at k1
  rw [left_perm h1.symm] at k3
  have := first_min hg (h1.mem_iff.2 (by simp)) h.l h.min
  exact ⟨k1, k2, k3, this⟩
/-- The first of a heap is not below any that is left. -/
theorem root_key {H : List Od} {o : Od} {y : En} {t : List En} (hf : HF H 0 H.length) (hg : Good H) (h0 : H[0]? = some o) (hl : o.l = y :: t) : hasO H o.n y ∧ ∀ n' z, hasO H n' z → ltB z.k y.k = false ∧ (z.k = y.k → o.n ≤ n') :=
  first_min hg (List.mem_of_getElem? h0) hl (fun b hb => by
    obtain ⟨i, hi, rfl⟩ := List.getElem_of_mem hb
    exact hf.min h0 i _ hi (Nat.le_refl _) (List.getElem?_eq_getElem hi))

set_option maxHeartbeats 1200000 in
theorem next_done (A : Nat → Prop) (w : World) (r N : Nat) (h : RdS A w r [] N) : Calls Tryz.prog 76 #[.pointer (some ⟨r, 0, none⟩)] w fun e w' => e = .returned (.tuple #[enV ⟨[], [], false⟩, .bool false]) ∧ Stay (fun _ => False) w w' := by
  obtain ⟨H, h1, _, hg, ht, _⟩ := h.ex
  have hH : H = [] := by
    cases H with
    | nil => rfl
    | cons o r =>
      obtain ⟨x, t, hl⟩ := List.exists_cons_of_ne_nil (hg.ne o (by simp))
      obtain ⟨e, he, _⟩ := ht.all o.n x ⟨o, by simp, rfl, by rw [hl]; simp⟩
      cases he
  subst hH
  obtain ⟨v, hr, hP, _⟩ := h1.ex
  obtain ⟨a, c, rfl⟩ := hP.form
  have c0 : w.cell? ⟨r, 0, none⟩ = some (.slice a 0 c) := by rw [cell_of_row w r 0 _ _ _ hr]; rfl
  have HBX := Lib.hid (Box.new w ⟨[], [], false⟩)
  have HA := Lib.hid (show Stay (fun _ => False) w (w.alloc (.cells (enC ⟨[], [], false⟩).toArray 42)) from Stay.alloc _ _)
  obtain ⟨w0, hw0⟩ : ∃ w0, w.alloc (.cells (enC ⟨[], [], false⟩).toArray 42) = w0 := ⟨_, rfl⟩
  rw [hw0] at HBX HA
  have W0 := Lib.hid hw0
  have d0 := HA.out.cell c0 (fun x => x)
  clear hw0 h h1 hr hP hg ht c0
  go_enter Tryz.func76, Tryz.ntmps76
  go_wp2_with (first
    | (with_reducible refine alloc_en rfl rfl ?_; rw [W0.out])
    | (refine Box.store HBX.out rfl (.tmp 2) (.tmp 15) rfl rfl ⟨[], [], false⟩ rfl ?_
       intro w6 hb6 hs6
       have H6 := Lib.hid hb6
       have HS6 := Lib.hid (stay_seal (HA.out.mono (fun _ x => x.elim) |>.trans hs6) (fun k hk => by have hk' : k = w.heap.size := hk; omega))
       clear hb6 hs6))
  try go_frame
  have hld := H6.out.run_load
  refine bodyPost_ret (v := .tuple #[enV ⟨[], [], false⟩, .bool false]) (by simp [results, Tryz.results76, asAddr, hld]) rfl ⟨rfl, HS6.out⟩

set_option maxHeartbeats 4000000 in
theorem next_some (A : Nat → Prop) (w : World) (r N : Nat) (e0 : En) (L : List En) (h : RdS A w r (e0 :: L) N) (hN : N ≤ 10000) : Calls Tryz.prog 76 #[.pointer (some ⟨r, 0, none⟩)] w fun e w' => e = .returned (.tuple #[enV e0, .bool true]) ∧ RdS (fun k => A k ∨ w.heap.size ≤ k) w' r L N ∧ Stay A w w' ∧ leftW w' r < leftW w r := by
  obtain ⟨H, h1, hf, hg, ht, hn⟩ := h.ex
  have hlw := h1.left
  have hH : H ≠ [] := by
    rintro rfl
    obtain ⟨n, x, ⟨o, ho, _⟩, _⟩ := ht.frm e0 (by simp)
    cases ho
  obtain ⟨o0, r0, rfl⟩ := List.exists_cons_of_ne_nil hH
  have HLW := Lib.hid hlw
  clear hlw
  obtain ⟨m, hm⟩ : ∃ m, m = r0.length := ⟨_, rfl⟩
  obtain ⟨g, c, hr, hP, _⟩ := h1.row (by simp)
  have c0 : w.cell? ⟨r, 0, none⟩ = some (.slice (some ⟨g, 0, none⟩) (m + 1) c) := by rw [cell_of_row w r 0 _ _ _ hr, hm]; rfl
  have HBX := Lib.hid (Box.new w ⟨[], [], false⟩)
  have HA := Lib.hid (show Stay (fun _ => False) w (w.alloc (.cells (enC ⟨[], [], false⟩).toArray 42)) from Stay.alloc _ _)
  have HSZ := Lib.hid (show (w.alloc (.cells (enC ⟨[], [], false⟩).toArray 42)).heap.size = w.heap.size + 1 by simp)
  obtain ⟨w0, hw0⟩ : ∃ w0, w.alloc (.cells (enC ⟨[], [], false⟩).toArray 42) = w0 := ⟨_, rfl⟩
  rw [hw0] at HBX HA HSZ
  have W0 := Lib.hid hw0
  have d0 := HA.out.cell c0 (fun x => x)
  have HTK := Lib.hid (take_any _ w0 r m (o0 :: r0) (h1.trim.stay0 HA.out) (by rw [List.length_cons, hm]) hf (by rw [List.length_cons, ← hm] at hn; omega))
  have HG := Lib.hid hg
  have HTT := Lib.hid ht
  have HNN := Lib.hid hn
  clear hw0 h h1 hr hP hg ht c0 hf hn hH hm
  go_enter Tryz.func76, Tryz.ntmps76
  go_wp2_with (with_reducible refine alloc_en rfl rfl ?_; rw [W0.out])
  refine HTK.out.mono ?_
  rintro e w1 ⟨o, x, t, H1, rfl, hT⟩
  have HS1 := Lib.hid hT.st
  have HL1 := Lib.hid (took_len hT)
  obtain ⟨k1, k2, k3, k4, k5⟩ := took_all hT HG.out
  obtain ⟨L', hLL, habv⟩ := head_of HTT.out HG.out.uniq k4 k5
  rw [← k1] at habv
  obtain ⟨rfl, rfl⟩ : e0 = norm x ∧ L = L' := by cases hLL; exact ⟨rfl, rfl⟩
  have HK1 := Lib.hid (show RdK _ w1 r x.k L N H1 from ⟨hT.rd.trim, hT.heap, k2, habv, Nat.le_trans (took_len hT) HNN.out⟩)
  have HLT1 := Lib.hid (show leftO H1 < leftW w r from by rw [HLW.out]; omega)
  have HBX1 := Lib.hid (HBX.out.stay hT.st (fun hk => Nat.lt_irrefl _ hk.2))
  have HBN := Lib.hid (Box.new w1 ⟨[], [], false⟩)
  have HA2 := Lib.hid (show Stay (fun _ => False) w1 (w1.alloc (.cells (enC ⟨[], [], false⟩).toArray 42)) from Stay.alloc _ _)
  have HSZ2 := Lib.hid (show (w1.alloc (.cells (enC ⟨[], [], false⟩).toArray 42)).heap.size = w1.heap.size + 1 by simp)
  obtain ⟨w2, hw2⟩ : ∃ w2, w1.alloc (.cells (enC ⟨[], [], false⟩).toArray 42) = w2 := ⟨_, rfl⟩
  rw [hw2] at HBN HA2 HSZ2
  have W2 := Lib.hid hw2
  clear hT k1 k2 k3 k4 k5 hLL habv hw2 HTK
  go_wp2_with (first
    | (with_reducible refine alloc_en rfl rfl ?_; rw [W2.out])
    | (refine Box.store HBN.out rfl (.tmp 4) (.tmp 17) rfl rfl x rfl ?_
       intro w3 hb3 hs3
       have H3 := Lib.hid hb3
       have HS3 := Lib.hid ((HA2.out.mono (Y := (· = w1.heap.size)) (fun _ x => x.elim)).trans hs3)
       have HZ3 := Lib.hid (show w1.heap.size < w3.heap.size from by have h1 := hs3.size; have h2 := HSZ2.out; omega)
       clear hb3 hs3))
  have HK3 := Lib.hid (show RdK (fun k => (((A k ∧ k < w.heap.size) ∨ w0.heap.size ≤ k) ∧ k < w1.heap.size) ∨ w3.heap.size ≤ k) w3 r x.k L N H1 from (HK1.out.stay HS3.out (fun k hk e => by have h1 := hk.2; have h2 : k = w1.heap.size := e; omega)).mono (fun k _ hk => .inl hk))
  have HBX3 := Lib.hid (HBX1.out.stay HS3.out (fun e => by have h1 : w.heap.size = w1.heap.size := e; have h2 := HSZ.out; have h3 := HS1.out.size; omega))
  clear HBX1 HBN HL1
  obtain ⟨AL, hAL⟩ : ∃ AL : Nat → Prop, AL = (fun k => (((A k ∧ k < w.heap.size) ∨ w0.heap.size ≤ k) ∧ k < w1.heap.size) ∨ w3.heap.size ≤ k) := ⟨_, rfl⟩
  have HNB := Lib.hid (show ¬ AL w1.heap.size ∧ ¬ AL w.heap.size ∧ (∀ k, k < w.heap.size → AL k → A k) ∧ (∀ k, w3.heap.size ≤ k → AL k) ∧ ∀ k, AL k → A k ∨ w.heap.size ≤ k from by
    rw [hAL]
    have h1 := HZ3.out
    have h2 := HSZ.out
    have h3 := HS1.out.size
    refine ⟨fun h => ?_, fun h => ?_, fun k hk h => ?_, fun k hk => .inr hk, fun k h => ?_⟩
    · rcases h with h | h
      · exact Nat.lt_irrefl _ h.2
      · omega
    · rcases h with h | h
      · rcases h.1 with h | h
        · exact Nat.lt_irrefl _ h.2
        · omega
      · omega
    · rcases h with h | h
      · rcases h.1 with h | h
        · exact h.1
        · omega
      · omega
    · rcases h with h | h
      · exact h.1.imp (fun h => h.1) (fun h => by omega)
      · exact .inr (by omega))
  rw [← hAL] at HK3
  have HST3 := Lib.hid (show Stay A w w3 from ((HA.out.mono (fun _ x => x.elim)).andThen HS1.out (fun k _ hk => hk.1)).andThen HS3.out (fun k hk e => by have h2 : k = w1.heap.size := e; have h3 := HSZ.out; have h4 := HS1.out.size; omega))
  have HLT := Lib.hid (show w.heap.size < w1.heap.size from by have h3 := HSZ.out; have h4 := HS1.out.size; omega)
  clear hAL HK1 HS1 HS3 HA HA2 d0 HTT HG HNN
  go_frame
  go_loopw [] (fun wr => ∃ H' : List Od, Hid (RdK AL wr r x.k L N H') ∧ Hid (leftO H' < leftW w r) ∧ Hid (Stay AL w3 wr)) (fun wr => leftW wr r)
  case atStart => exact ⟨H1, HK3, HLT1, Lib.hid (Stay.refl _ _)⟩
  case round =>
    obtain ⟨H', HK', HLE, HS'⟩ := hrel
    have HMS := Lib.hid HK'.out.r.left
    have HB4 := Lib.hid (H3.out.stay HS'.out HNB.out.1)
    have HB2 := Lib.hid (HBX3.out.stay HS'.out HNB.out.2.1)
    have HRA := Lib.hid (show ∃ H9, RdAt AL wr r H9 ∧ leftO H9 < leftW w r from ⟨H', HK'.out.r, HLE.out⟩)
    by_cases hH : H' = []
    · subst hH
      have HTL := Lib.hid (show RdS AL wr r L N from ⟨[], HK'.out.r, HK'.out.f, HK'.out.g, HK'.out.a.tells (fun n y hy => by obtain ⟨o, ho, _⟩ := hy; cases ho), HK'.out.n⟩)
      obtain ⟨v', hr', hP', _⟩ := HK'.out.r.ex
      obtain ⟨a', c', rfl⟩ := hP'.form
      have d0 : wr.cell? ⟨r, 0, none⟩ = some (.slice a' 0 c') := by rw [cell_of_row wr r 0 _ _ _ hr']; rfl
      clear hr' hP'
      go_wp2
      go_quiet (fail)
      have HQ := Lib.hid (stay_drewN (X := fun _ => False) wr nq)
      have HB5 := Lib.hid (HB4.out.stay0 HQ.out)
      have HX5 := Lib.hid (HB2.out.stay0 HQ.out)
      have HT5 := Lib.hid (HTL.out.stay0 HQ.out)
      have HS5 := Lib.hid (show Stay AL w3 (wr.drewN nq) from HS'.out.trans (HQ.out.mono (fun _ x => x.elim)))
      generalize wr.drewN nq = w5 at *
      have hb2 := HB5.out.c (j := 2) rfl
      cases hg : x.g with
      | true =>
        have HN := Lib.hid (show norm x = ⟨x.k, [], x.g⟩ from by unfold norm; rw [if_pos hg, hg])
        rw [hg] at hb2
        have hb1 := HB5.out.c (j := 1) rfl
        have hf1 := HB5.out.fr 1
        have HB6 := Lib.hid (Mg.Box.set1 HB5.out)
        have HS56 := Lib.hid (show Stay (· = w1.heap.size) w5 (w5.setCell ⟨w1.heap.size, 1, none⟩ (.string ⟨#[]⟩)) from Stay.setCell _ _ _ rfl)
        have HX6 := Lib.hid (HX5.out.stay HS56.out (fun e => by have h1 : w.heap.size = w1.heap.size := e; have h2 := HLT.out; omega))
        clear hg
        go_wp2_with (first
          | (refine wpList_load_run (by rfl) 42 (.tmp 4) rfl ⟨w1.heap.size, 0, none⟩ rfl _ HB6.out.run_load ?_)
          | (refine Box.store HX6.out rfl (.tmp 2) (.tmp 46) rfl rfl ⟨x.k, [], x.g⟩ rfl ?_
             intro w6 hb6 hs6
             have H6 := Lib.hid hb6
             have HS6 := Lib.hid hs6
             clear hb6 hs6))
        try go_frame
        have hld := H6.out.run_load
        refine bodyPost_ret (v := .tuple #[enV ⟨x.k, [], x.g⟩, .bool true]) (by simp [results, Tryz.results76, asAddr, hld]) rfl ?_
        refine ⟨by rw [HN.out], ?_, ?_, ?_⟩
        · refine ((HT5.out.stay HS56.out (fun k hk e => HNB.out.1 (by have h2 : k = w1.heap.size := e; rwa [← h2]))).stay HS6.out (fun k hk e => HNB.out.2.1 (by have h2 : k = w.heap.size := e; rwa [← h2]))).mono (fun k _ hk => HNB.out.2.2.2.2 k hk)
        · exact ((HST3.out.andThen HS5.out (fun k hk h => HNB.out.2.2.1 k hk h)).andThen HS56.out (fun k hk e => by have h2 : k = w1.heap.size := e; have h3 := HLT.out; omega)).andThen HS6.out (fun k hk e => by have h2 : k = w.heap.size := e; omega)
        · obtain ⟨H9, h9, h8⟩ := HRA.out
          rw [(((h9.stay0 HQ.out).stay HS56.out (fun k hk e => HNB.out.1 (by have h2 : k = w1.heap.size := e; rwa [← h2]))).stay HS6.out (fun k hk e => HNB.out.2.1 (by have h2 : k = w.heap.size := e; rwa [← h2]))).left]
          exact h8
      | false =>
        have HN := Lib.hid (show norm x = x from by unfold norm; rw [if_neg (by rw [hg]; simp)])
        rw [hg] at hb2
        clear hg
        go_wp2_with (first
          | (refine wpList_load_run (by rfl) 42 (.tmp 4) rfl ⟨w1.heap.size, 0, none⟩ rfl _ HB5.out.run_load ?_)
          | (refine Box.store HX5.out rfl (.tmp 2) (.tmp 46) rfl rfl x rfl ?_
             intro w6 hb6 hs6
             have H6 := Lib.hid hb6
             have HS6 := Lib.hid hs6
             clear hb6 hs6))
        try go_frame
        have hld := H6.out.run_load
        refine bodyPost_ret (v := .tuple #[enV x, .bool true]) (by simp [results, Tryz.results76, asAddr, hld]) rfl ?_
        refine ⟨by rw [HN.out], ?_, ?_, ?_⟩
        · exact (HT5.out.stay HS6.out (fun k hk e => HNB.out.2.1 (by have h2 : k = w.heap.size := e; rwa [← h2]))).mono (fun k _ hk => HNB.out.2.2.2.2 k hk)
        · exact (HST3.out.andThen HS5.out (fun k hk h => HNB.out.2.2.1 k hk h)).andThen HS6.out (fun k hk e => by have h2 : k = w.heap.size := e; omega)
        · obtain ⟨H9, h9, h8⟩ := HRA.out
          rw [((h9.stay0 HQ.out).stay HS6.out (fun k hk e => HNB.out.2.1 (by have h2 : k = w.heap.size := e; rwa [← h2]))).left]
          exact h8
    · obtain ⟨o, r1, rfl⟩ := List.exists_cons_of_ne_nil hH
      obtain ⟨m1, hm1⟩ : ∃ m1, m1 = r1.length := ⟨_, rfl⟩
      obtain ⟨g1, c1, hr1, hP1, _⟩ := HK'.out.r.row (by simp)
      have d0 : wr.cell? ⟨r, 0, none⟩ = some (.slice (some ⟨g1, 0, none⟩) (m1 + 1) c1) := by rw [cell_of_row wr r 0 _ _ _ hr1, hm1]; rfl
      have d1 := hP1.cell (j := 0) (o := o) rfl
      obtain ⟨hod, _, hne, _⟩ := HK'.out.r.at (j := 0) (o := o) rfl
      obtain ⟨y, t1, hl1⟩ := List.exists_cons_of_ne_nil hne
      obtain ⟨ga, oa, na, hv1, _, e0, _⟩ := hod.first hl1
      have d2 := hod.c0
      rw [hv1] at d2
      have e1 := HB4.out.c (j := 0) rfl
      obtain ⟨q1, q2⟩ := root_key HK'.out.f HK'.out.g (o := o) rfl hl1
      have HLEN := Lib.hid (show m1 + 1 ≤ N from by have h1 := HK'.out.n; rw [List.length_cons, ← hm1] at h1; exact h1)
      have HM1 := Lib.hid hm1
      have HQ1 := Lib.hid q1
      have HQ2 := Lib.hid q2
      generalize o.p = op at *
      clear hr1 hP1 hod hne hl1 hv1 hH hm1 q1 q2
      by_cases hkk : y.k = x.k
      · rw [hkk] at e0
        have HTK := Lib.hid (fun W (hs : Stay (fun _ => False) wr W) => take_any AL W r m1 (o :: r1) (HK'.out.r.stay0 hs) (by rw [List.length_cons, HM1.out]) HK'.out.f (by have := HLEN.out; omega))
        have HKK := Lib.hid hkk
        clear hkk
        go_wp2
        go_quiet (fail)
        have HQ := Lib.hid (stay_drewN (X := fun _ => False) wr nq)
        have HTK2 := Lib.hid (HTK.out _ HQ.out)
        clear d0 d1 d2 e0 e1 HTK
        go_wp2_with fail
        refine HTK2.out.mono ?_
        rintro e w6 ⟨o2, x2, t2, H2, rfl, hT⟩
        have HT := Lib.hid hT
        clear hT HTK2
        go_wp2
        obtain ⟨k1, k2, k3, k4, k5⟩ := took_all HT.out HK'.out.g
        have hx2 : x2.k = x.k := by
          refine (lt_one ?_ ?_)
          · have h1 := (k5 _ _ HQ1.out).1
            rw [HKK.out] at h1
            exact HK'.out.a.low _ _ k4
          · have h1 := (k5 _ _ HQ1.out).1
            rw [HKK.out] at h1
            exact h1
        have hab := HK'.out.a.skip (n := o2.n) hx2
        rw [← k1] at hab
        refine ⟨⟨H2, Lib.hid ⟨HT.out.rd.mono (fun k _ hk => ?_), HT.out.heap, k2, hab, Nat.le_trans (took_len HT.out) HK'.out.n⟩, Lib.hid (by have := HLE.out; omega), Lib.hid ((HS'.out.trans (HQ.out.mono (fun _ x => x.elim))).andThen HT.out.st (fun k _ hk => hk))⟩, ?_⟩
        · rcases hk with hk | hk
          · exact hk
          · exact HNB.out.2.2.2.1 k (Nat.le_trans (HS'.out.trans (HQ.out.mono (fun _ x => x.elim))).size hk)
        · rw [HMS.out, HT.out.rd.left]
          omega
      · have hne : (y.k == x.k) = false := by simpa using hkk
        have HTL := Lib.hid (show RdS AL wr r L N from ⟨o :: r1, HK'.out.r, HK'.out.f, HK'.out.g, HK'.out.a.tells (fun n z hz hzk => by
          have h1 := (HQ2.out n z hz).1
          have h2 := HK'.out.a.low _ _ HQ1.out
          rw [hzk] at h1
          exact hkk (lt_one h2 h1)), HK'.out.n⟩)
        clear hkk
        go_wp2
        go_quiet (fail)
        have HQ := Lib.hid (stay_drewN (X := fun _ => False) wr nq)
        have HB5 := Lib.hid (HB4.out.stay0 HQ.out)
        have HX5 := Lib.hid (HB2.out.stay0 HQ.out)
        have HT5 := Lib.hid (HTL.out.stay0 HQ.out)
        have HS5 := Lib.hid (show Stay AL w3 (wr.drewN nq) from HS'.out.trans (HQ.out.mono (fun _ x => x.elim)))
        generalize wr.drewN nq = w5 at *
        have hb2 := HB5.out.c (j := 2) rfl
        cases hg : x.g with
        | true =>
          have HN := Lib.hid (show norm x = ⟨x.k, [], x.g⟩ from by unfold norm; rw [if_pos hg, hg])
          rw [hg] at hb2
          have hb1 := HB5.out.c (j := 1) rfl
          have hf1 := HB5.out.fr 1
          have HB6 := Lib.hid (Mg.Box.set1 HB5.out)
          have HS56 := Lib.hid (show Stay (· = w1.heap.size) w5 (w5.setCell ⟨w1.heap.size, 1, none⟩ (.string ⟨#[]⟩)) from Stay.setCell _ _ _ rfl)
          have HX6 := Lib.hid (HX5.out.stay HS56.out (fun e => by have h1 : w.heap.size = w1.heap.size := e; have h2 := HLT.out; omega))
          clear hg
          go_wp2_with (first
            | (refine wpList_load_run (by rfl) 42 (.tmp 4) rfl ⟨w1.heap.size, 0, none⟩ rfl _ HB6.out.run_load ?_)
            | (refine Box.store HX6.out rfl (.tmp 2) (.tmp 46) rfl rfl ⟨x.k, [], x.g⟩ rfl ?_
               intro w6 hb6 hs6
               have H6 := Lib.hid hb6
               have HS6 := Lib.hid hs6
               clear hb6 hs6))
          try go_frame
          have hld := H6.out.run_load
          refine bodyPost_ret (v := .tuple #[enV ⟨x.k, [], x.g⟩, .bool true]) (by simp [results, Tryz.results76, asAddr, hld]) rfl ?_
          refine ⟨by rw [HN.out], ?_, ?_, ?_⟩
          · refine ((HT5.out.stay HS56.out (fun k hk e => HNB.out.1 (by have h2 : k = w1.heap.size := e; rwa [← h2]))).stay HS6.out (fun k hk e => HNB.out.2.1 (by have h2 : k = w.heap.size := e; rwa [← h2]))).mono (fun k _ hk => HNB.out.2.2.2.2 k hk)
          · exact ((HST3.out.andThen HS5.out (fun k hk h => HNB.out.2.2.1 k hk h)).andThen HS56.out (fun k hk e => by have h2 : k = w1.heap.size := e; have h3 := HLT.out; omega)).andThen HS6.out (fun k hk e => by have h2 : k = w.heap.size := e; omega)
          · obtain ⟨H9, h9, h8⟩ := HRA.out
            rw [(((h9.stay0 HQ.out).stay HS56.out (fun k hk e => HNB.out.1 (by have h2 : k = w1.heap.size := e; rwa [← h2]))).stay HS6.out (fun k hk e => HNB.out.2.1 (by have h2 : k = w.heap.size := e; rwa [← h2]))).left]
            exact h8
        | false =>
          have HN := Lib.hid (show norm x = x from by unfold norm; rw [if_neg (by rw [hg]; simp)])
          rw [hg] at hb2
          clear hg
          go_wp2_with (first
            | (refine wpList_load_run (by rfl) 42 (.tmp 4) rfl ⟨w1.heap.size, 0, none⟩ rfl _ HB5.out.run_load ?_)
            | (refine Box.store HX5.out rfl (.tmp 2) (.tmp 46) rfl rfl x rfl ?_
               intro w6 hb6 hs6
               have H6 := Lib.hid hb6
               have HS6 := Lib.hid hs6
               clear hb6 hs6))
          try go_frame
          have hld := H6.out.run_load
          refine bodyPost_ret (v := .tuple #[enV x, .bool true]) (by simp [results, Tryz.results76, asAddr, hld]) rfl ?_
          refine ⟨by rw [HN.out], ?_, ?_, ?_⟩
          · exact (HT5.out.stay HS6.out (fun k hk e => HNB.out.2.1 (by have h2 : k = w.heap.size := e; rwa [← h2]))).mono (fun k _ hk => HNB.out.2.2.2.2 k hk)
          · exact (HST3.out.andThen HS5.out (fun k hk h => HNB.out.2.2.1 k hk h)).andThen HS6.out (fun k hk e => by have h2 : k = w.heap.size := e; omega)
          · obtain ⟨H9, h9, h8⟩ := HRA.out
            rw [((h9.stay0 HQ.out).stay HS6.out (fun k hk e => HNB.out.2.1 (by have h2 : k = w.heap.size := e; rwa [← h2]))).left]
            exact h8
end Go.Proofs.YtljlfdhjolcnaaaGreat.Mg

/-
  merge: whether an order's keys rise; orders as they come in.
-/
namespace Go.Proofs.YtljlfdhjolcnaaaGreat.Mg
open Go.RowKit Go.Maps Me
set_option maxRecDepth 100000
set_option linter.unusedVariables false

/-- Each key is above the one ahead of it, up to the n-th. -/
def upB (L : List En) (n : Nat) : Prop := ∀ i a b, i + 1 < n → L[i]? = some a → L[i + 1]? = some b → ltB a.k b.k = true
theorem sorted_up : ∀ {L : List En}, upB L L.length → Sorted L
  | [], _ => sorted_nil
  | [a], _ => by simp [Sorted]
  | a :: b :: r, h => by
    have ih : Sorted (b :: r) := sorted_up (fun i x y hi hx hy => h (i + 1) x y (by simp at hi ⊢; omega) (by simpa using hx) (by simpa using hy))
    have hab := h 0 a b (by simp) rfl rfl
    refine List.pairwise_cons.2 ⟨fun x hx => ?_, ih⟩
    rcases List.mem_cons.1 hx with rfl | hx
    · exact hab
    · exact lt_trans hab (sorted_head ih x hx)
instance (L : List En) : Decidable (Sorted L) := inferInstanceAs (Decidable (List.Pairwise _ L))
theorem leq_not (p q : List UInt8) : (Op.bytesLess q p || q == p) = !(ltB p q) := by
  rw [less_eq]
  cases h : ltB p q with
  | true =>
    rw [lt_asymm h]
    simpa using fun e => lt_ne h e.symm
  | false =>
    cases h2 : ltB q p with
    | true => rfl
    | false => rw [lt_one h h2]; simp

set_option maxHeartbeats 1200000 in
theorem asc_any (w : World) (x : Value) (L : List En) (hx : EnS w x L) (hl : L.length ≤ 1000000) :
    Calls Tryz.prog 107 #[x] w fun e w' => e = .returned (.bool (decide (Sorted L))) ∧ Stay (fun _ => False) w w' := by
  have HX := Lib.hid hx
  obtain ⟨a0, c, rfl⟩ := hx.form
  obtain ⟨R, hR⟩ : ∃ R, R = decide (Sorted L) := ⟨_, rfl⟩
  have HT := Lib.hid (show upB L L.length → R = true by intro h; rw [hR]; exact decide_eq_true (sorted_up h))
  have HF := Lib.hid (show ∀ i a b, L[i]? = some a → L[i + 1]? = some b → ltB a.k b.k = false → R = false by
    intro i a b ha hb h
    rw [hR]
    refine decide_eq_false (fun hs => ?_)
    rw [sorted_at hs (Nat.lt_succ_self i) ha hb] at h
    cases h)
  rw [← hR]
  have hlc : (L.length : Int) ≤ 1000000 := by omega
  clear hx hR hl
  go_enter Tryz.func107, Tryz.ntmps107
  go_wp2
  go_loopw [3] (fun i wr => ∃ k : Nat, i = .int .i64 ((k : Int) + 1) ∧ (k ≤ L.length) ∧ Hid (upB L (k + 1)) ∧ Stay (fun _ => False) w wr) (fun i _ => L.length + 1 - (intOf i).toNat)
  case atStart => exact ⟨0, rfl, Nat.zero_le _, Lib.hid (fun i a b hi => by omega), Stay.refl _ _⟩
  case round =>
    obtain ⟨k, rfl, hk, hb, hst⟩ := hrel
    have HS := Lib.hid hst
    clear hst
    by_cases hlt : k + 1 < L.length
    · obtain ⟨p, hp⟩ : ∃ p, L[k]? = some p := ⟨_, List.getElem?_eq_getElem (by omega)⟩
      obtain ⟨q, hq⟩ : ∃ q, L[k + 1]? = some q := ⟨_, List.getElem?_eq_getElem hlt⟩
      obtain ⟨g, o, rfl, _, hc⟩ := (HX.out.stay0 HS.out).at (by omega)
      obtain ⟨c0, _, _⟩ := hc _ p hp
      obtain ⟨d0, _, _⟩ := hc _ q hq
      have HP := Lib.hid hp
      have HQ := Lib.hid hq
      clear hc hp hq
      go_wp2
      go_quiet (fail)
      have HW := Lib.hid (HS.out.trans (stay_drewN (X := fun _ => False) wr nq))
      rw [leq_not]
      cases hlt3 : ltB p.k q.k with
      | true =>
        have HB := Lib.hid (show upB L (k + 1 + 1) from fun i a b hi ha hb' => by
          by_cases h : i = k
          · subst h; rw [HP.out] at ha; rw [HQ.out] at hb'; cases ha; cases hb'; exact hlt3
          · exact hb.out i a b (by omega) ha hb')
        clear hlt3
        rw [show (!true) = false from rfl]
        go_wp2
        go_roundw
        case rel => exact ⟨k + 1, by go_num, by omega, HB, HW.out⟩
        case measure => simp [intOf]; omega
      | false =>
        have hu := HF.out k p q HP.out HQ.out hlt3
        clear hlt3
        subst hu
        rw [show (!false) = true from rfl]
        go_wp2
        go_ret
        exact ⟨rfl, HW.out⟩
    · have hu := HT.out (fun i a b hi ha hb' => hb.out i a b (by omega) ha hb')
      subst hu
      go_wp2
      go_ret
      exact ⟨rfl, HS.out⟩

/-- A slice that reads as orders. -/
def ESs (w : World) (x : Value) (Ls : List (List En)) : Prop :=
  ∃ a0 c, x = .slice a0 Ls.length c ∧ Ls.length ≤ c ∧ c ≤ 9223372036854775807 ∧ (0 < Ls.length → ∃ g o, a0 = some ⟨g, o, none⟩ ∧ ∀ i L, Ls[i]? = some L → ∃ v, w.cell? ⟨g, o + i, none⟩ = some v ∧ EnS w v L)
section
variable {w w' : World} {x : Value} {Ls : List (List En)}
theorem ESs.stay0 (h : ESs w x Ls) (hs : Stay (fun _ => False) w w') : ESs w' x Ls := by
  obtain ⟨a0, c, rfl, h1, h2, h3⟩ := h
  refine ⟨a0, c, rfl, h1, h2, fun h0 => ?_⟩
  obtain ⟨g, o, rfl, hc⟩ := h3 h0
  refine ⟨g, o, rfl, fun i L hL => ?_⟩
  obtain ⟨v, k1, k2⟩ := hc i L hL
  exact ⟨v, hs.cell k1 (fun x => x), k2.stay0 hs⟩
theorem ESs.form (h : ESs w x Ls) : ∃ a c, x = .slice a Ls.length c := by
  obtain ⟨a0, c, e, _⟩ := h
  exact ⟨a0, c, e⟩
theorem ESs.at {a0 : Option Addr} {n c i : Nat} {L : List En} (h : ESs w (.slice a0 n c) Ls) (hi : Ls[i]? = some L) : ∃ g o v, a0 = some ⟨g, o, none⟩ ∧ w.cell? ⟨g, o + i, none⟩ = some v ∧ EnS w v L := by
  obtain ⟨a1, c1, e, h1, h2, h3⟩ := h
  cases e
  obtain ⟨g, o, rfl, hc⟩ := h3 (by have := (List.getElem?_eq_some_iff.1 hi).1; omega)
  obtain ⟨v, k1, k2⟩ := hc i L hi
  exact ⟨g, o, v, rfl, k1, k2⟩
end
theorem hasL_snoc {Ls : List (List En)} {j : Nat} {L : List En} (h : Ls[j]? = some L) (n : Nat) (x : En) : hasL 0 (Ls.take (j + 1)) n x ↔ hasL 0 (Ls.take j) n x ∨ (n = j ∧ x ∈ L) := by
  have hj := (List.getElem?_eq_some_iff.1 h).1
  constructor
  · rintro ⟨i, l, h1, h2, h3⟩
    have hi : i < j + 1 := by have := (List.getElem?_eq_some_iff.1 h1).1; rw [List.length_take] at this; omega
    rw [List.getElem?_take_of_lt hi] at h1
    by_cases hij : i = j
    · subst hij
      rw [h] at h1
      cases h1
      exact .inr ⟨by omega, h3⟩
    · exact .inl ⟨i, l, by rw [List.getElem?_take_of_lt (by omega)]; exact h1, h2, h3⟩
  · rintro (⟨i, l, h1, h2, h3⟩ | ⟨rfl, h2⟩)
    · have hi : i < j := by have := (List.getElem?_eq_some_iff.1 h1).1; rw [List.length_take] at this; omega
      rw [List.getElem?_take_of_lt hi] at h1
      exact ⟨i, l, by rw [List.getElem?_take_of_lt (by omega)]; exact h1, h2, h3⟩
    · exact ⟨n, L, by rw [List.getElem?_take_of_lt (Nat.lt_succ_self n)]; exact h, by omega, h2⟩
/-- The orders of a reader so far: those of the first j that have an entry. -/
structure Sofar (Ls : List (List En)) (j : Nat) (H : List Od) : Prop where
  g : Good H
  h : ∀ n x, hasO H n x ↔ hasL 0 (Ls.take j) n x
  lt : ∀ o ∈ H, o.n < j
  len : H.length ≤ j
theorem Sofar.zero (Ls : List (List En)) : Sofar Ls 0 [] := by
  refine ⟨⟨by simp, fun o ho => ?_, fun o ho => ?_⟩, fun n x => ⟨fun h => ?_, fun h => ?_⟩, fun o ho => ?_, Nat.le_refl _⟩
  · cases ho
  · cases ho
  · obtain ⟨o, ho, _⟩ := h
    cases ho
  · rw [List.take_zero] at h
    exact absurd h (hasL_nil 0 n x)
  · cases ho
theorem Sofar.skip {Ls : List (List En)} {j : Nat} {H : List Od} (h : Sofar Ls j H) (hL : Ls[j]? = some []) : Sofar Ls (j + 1) H :=
  ⟨h.g, fun n x => by rw [h.h, hasL_snoc hL]; simp, fun o ho => Nat.lt_succ_of_lt (h.lt o ho), Nat.le_succ_of_le h.len⟩
theorem Sofar.put {Ls : List (List En)} {j : Nat} {H : List Od} {L : List En} {o : Od} (h : Sofar Ls j H) (hL : Ls[j]? = some L) (hn : o.n = j) (hl : o.l = L) (hne : L ≠ []) (hs : Sorted L) : Sofar Ls (j + 1) (H ++ [o]) := by
  refine ⟨⟨?_, fun q hq => ?_, fun q hq => ?_⟩, fun n x => ?_, fun q hq => ?_, ?_⟩
  · rw [List.map_append, List.nodup_append]
    refine ⟨h.g.nd, by simp, fun a ha b hb => ?_⟩
    obtain ⟨q, hq, rfl⟩ := List.mem_map.1 ha
    simp at hb
    have := h.lt q hq
    omega
  · rcases List.mem_append.1 hq with hq | hq
    · exact h.g.srt q hq
    · rw [List.mem_singleton.1 hq, hl]; exact hs
  · rcases List.mem_append.1 hq with hq | hq
    · exact h.g.ne q hq
    · rw [List.mem_singleton.1 hq, hl]; exact hne
  · rw [hasL_snoc hL, ← h.h]
    constructor
    · rintro ⟨q, hq, h1, h2⟩
      rcases List.mem_append.1 hq with hq | hq
      · exact .inl ⟨q, hq, h1, h2⟩
      · rw [List.mem_singleton.1 hq] at h1 h2
        exact .inr ⟨by omega, by rw [← hl]; exact h2⟩
    · rintro (⟨q, hq, h1, h2⟩ | ⟨h1, h2⟩)
      · exact ⟨q, List.mem_append_left _ hq, h1, h2⟩
      · exact ⟨o, by simp, by omega, by rw [hl]; exact h2⟩
  · rcases List.mem_append.1 hq with hq | hq
    · exact Nat.lt_succ_of_lt (h.lt q hq)
    · rw [List.mem_singleton.1 hq]; omega
  · rw [List.length_append, List.length_singleton]
    have := h.len
    omega
end Go.Proofs.YtljlfdhjolcnaaaGreat.Mg

/-
  merge: New.
-/
namespace Go.Proofs.YtljlfdhjolcnaaaGreat.Mg
open Go.RowKit Go.Maps Me
set_option maxRecDepth 100000
set_option linter.unusedVariables false

theorem EnO.ent {base : Nat} {w : World} {v : Value} {L : List En} (h : EnO base w v L) : EnT w v L := by
  refine ⟨h.ens, fun k hk => ?_⟩
  rcases h.2 with ⟨e, _⟩ | ⟨g', cap, cur, e, h4, hg, _⟩
  · rw [e] at hk; cases hk
  · rw [e] at hk
    have hk' : g' = k := Option.some.inj hk
    subst hk'
    exact ⟨_, _, hg⟩

/-- A call of a function, as one step of a region, by its contract. -/
theorem step_call {P : Program} {ops : Array Oper} {o : Oper} {a : Act} {w : World} {K : Act → World → Prop} {Q : Exit → Act → World → Prop} {E : Prop} (hgd : o.guard = none) (f : FuncId) (xs : Array Operand) (ts : Array TypeId)
    (ho : o.op = .call { callee := .value (.func f), args := xs, argTypes := ts }) (vals : Array Value) (hv : xs.map a.eval = vals) (hf : (callFunc f vals).run P w = .ok (.enter f vals) w) (hc : Calls P f vals w fun e w' => ∃ v, e = .returned v ∧ K (a.put o.dst v) w') :
    if Region.wanted o (yielded ops a.tmps) = true then Oper.wp P o a w K Q else E := by
  have hw : Region.wanted o (yielded ops a.tmps) = true := by simp [Region.wanted, hgd]
  rw [if_pos hw]
  unfold Oper.wp
  have hrun : (execOp a.eval o).run P w = .ok (.enter f vals) w := by
    unfold execOp
    simp [ho, resolve, invoke, hv, Act.eval, Deferred.ofValue, hf]
  rw [hrun, Oper.upon_enter]
  refine hc.mono ?_
  rintro e w' ⟨v, rfl, hk⟩
  exact hk

set_option maxHeartbeats 1200000 in
theorem new_any (w : World) (x : Value) (Ls : List (List En)) (hx : ESs w x Ls) (hlen : Ls.length ≤ 1000) (hsz : ∀ L ∈ Ls, L.length ≤ 1000) :
    Calls Tryz.prog 75 #[x] w fun e w' => Stay (fun _ => False) w w' ∧ ((∃ r, (∀ L ∈ Ls, Sorted L) ∧ e = .returned (.tuple #[.pointer (some ⟨r, 0, none⟩), .nilIface]) ∧ RdS (fun k => w.heap.size ≤ k) w' r (allN Ls) Ls.length) ∨
      ((¬ ∀ L ∈ Ls, Sorted L) ∧ e = .returned (.tuple #[.pointer none, .iface 66 (.int .i64 41)]))) := by
  have HX := Lib.hid hx
  obtain ⟨a0, c, rfl⟩ := hx.form
  have hlc : (Ls.length : Int) ≤ 1000 := by omega
  have HLEN := Lib.hid hlen
  have HSZ := Lib.hid hsz
  clear hx hlen hsz
  go_enter Tryz.func75, Tryz.ntmps75
  have HR0 := Lib.hid (show RdAt (fun k => w.heap.size ≤ k) (w.alloc (.cells #[.slice none 0 0] 177)) w.heap.size [] from ⟨⟨_, heap_alloc_new w _, PO.nil _ _, fun k hk => by cases hk⟩, (fun o ho => by cases ho), by simp, Nat.le_refl _⟩)
  have HA := Lib.hid (show Stay (fun _ => False) w (w.alloc (.cells #[.slice none 0 0] 177)) from Stay.alloc _ _)
  obtain ⟨r, hrr⟩ : ∃ r, r = w.heap.size := ⟨_, rfl⟩
  have HRR := Lib.hid hrr
  go_wp2
  rw [← hrr] at HR0 ⊢
  generalize w.alloc (.cells #[.slice none 0 0] 177) = w0 at *
  clear hrr
  go_loopw [11] (fun t wr => ∃ (j : Nat) (H : List Od), t = .int .i64 (j : Int) ∧ j ≤ Ls.length ∧ Hid (∀ L ∈ Ls.take j, Sorted L) ∧ Hid (Sofar Ls j H) ∧ Hid (RdAt (fun k => r ≤ k) wr r H) ∧ Hid (Stay (fun _ => False) w wr)) (fun t _ => Ls.length - (intOf t).toNat)
  case atStart => exact ⟨0, [], rfl, Nat.zero_le _, Lib.hid (by simp), Lib.hid (Sofar.zero Ls), HR0, HA⟩
  case round =>
    obtain ⟨j, H, rfl, hj, HSO, HSF, HR, HS⟩ := hrel
    by_cases hlt : j < Ls.length
    · obtain ⟨L, hL⟩ : ∃ L, Ls[j]? = some L := ⟨_, List.getElem?_eq_getElem hlt⟩
      have HXR := Lib.hid (HX.out.stay0 HS.out)
      obtain ⟨g, o, v, rfl, cv, hv⟩ := HXR.out.at hL
      have HV := Lib.hid hv
      have HL := Lib.hid hL
      have HLS := Lib.hid (HSZ.out L (List.mem_of_getElem? hL))
      have HASC := Lib.hid (asc_any wr v L hv (by have := HLS.out; omega))
      obtain ⟨va, vc, rfl⟩ := hv.form
      clear hv hL
      by_cases hs : Sorted L
      · have HSL := Lib.hid hs
        by_cases hL0 : L.length = 0
        · have HL0 := Lib.hid (show L = [] from List.eq_nil_of_length_eq_zero hL0)
          rw [hL0] at HASC
          have hdec := decide_eq_true hs
          clear hs
          go_wp2_with fail
          refine HASC.out.mono ?_
          rintro e w1 ⟨rfl, hs1⟩
          rw [hdec]
          have HS1 := Lib.hid hs1
          clear hs1
          go_wp2
          refine ⟨⟨j + 1, H, by go_num, hlt, Lib.hid (fun q hq => ?_), Lib.hid (HSF.out.skip (by rw [← HL0.out]; exact HL.out)), Lib.hid (HR.out.stay0 HS1.out), Lib.hid (HS.out.trans HS1.out)⟩, by simp [intOf]; omega⟩
          rw [List.take_add_one, HL.out] at hq
          rcases List.mem_append.1 hq with hq | hq
          · exact HSO.out q hq
          · simp at hq; rw [hq]; exact HSL.out
        · have hL0I : (0 : Int) < (L.length : Int) := by omega
          have hL0N : 0 < L.length := by omega
          have hdec := decide_eq_true hs
          clear hs
          go_wp2_with fail
          refine HASC.out.mono ?_
          rintro e w1 ⟨rfl, hs1⟩
          rw [hdec]
          have HS1 := Lib.hid hs1
          obtain ⟨v1, hr1, hP1, _⟩ := (HR.out.stay0 hs1).ex
          obtain ⟨a1, c1, rfl⟩ := hP1.form
          have d0 : w1.cell? ⟨r, 0, none⟩ = some (.slice a1 H.length c1) := by rw [cell_of_row w1 r 0 _ _ _ hr1]; rfl
          have f0 := frozen_of_row w1 r 0 _ _ hr1
          have HP1 := Lib.hid hP1
          have HR1 := Lib.hid hr1
          have HCL := Lib.hid (fun W (hs : Stay (fun _ => False) w1 W) => clone_en W _ L (HV.out.stay0 (HS1.out.trans hs)) (by have := HLS.out; omega))
          have hrl := (Array.getElem?_eq_some_iff.1 hr1).1
          clear hs1 hP1 hr1 hdec
          go_wp2
          have hrn : ∀ W : World, w1.heap.size ≤ W.heap.size → r < W.heap.size ∧ ¬ r = W.heap.size ∧ ¬ r = W.heap.size + 1 := fun W h => by omega
          have HSW1 := Lib.hid (show Stay (fun _ => False) w w1 from HS.out.trans HS1.out)
          have HRD1 := Lib.hid (show RdAt (fun k => r ≤ k) w1 r H from HR.out.stay0 HS1.out)
          go_region_law (first
            | (refine step_call rfl 104 #[.tmp 28] #[34] rfl #[.slice va L.length vc] (by simp [Act.eval, Act.put]) (by kernel_rfl) ((HCL.out _ Stay.drew).mono ?_); rintro e w2 ⟨v2, rfl, ho2, hs2⟩; refine ⟨v2, rfl, ?_⟩; have d2 := (Stay.drew.trans hs2).cell d0 (fun x => x); have HO2 := Lib.hid ho2; have HS2 := Lib.hid (Stay.drew.trans hs2); obtain ⟨hr2, hr3, hr4⟩ := hrn w2 HS2.out.size; obtain ⟨a2, c2, rfl⟩ := ho2.form; clear hs2 ho2)
            | (refine step_append_po rfl (.tmp 27) (.tmp 33) 175 rfl Tryz.underlying175 (w2.heap.size + 1) 0 1 (Od.mk w2.heap.size (.slice a2 L.length c2) j L) (by simp [Act.eval]) (by simp [Act.eval]) (((HP1.out.stay0 HS2.out).stay0 (Stay.alloc _ _)).stay0 (Stay.alloc _ _)) (by simp) (by have := HSF.out.len; have := HLEN.out; omega) (by simp) ?_; intro v4 w4 hown4 hs4 hb4; have HS4 := Lib.hid hs4; have HO4 := Lib.hid hown4; have HB4 := Lib.hid hb4; have HS14 := Lib.hid (((HS2.out.mono (fun _ x => x.elim)).trans ((Stay.alloc _ _).trans (Stay.alloc _ _))).trans hs4); have hr4 := (HS14.out.block r hrl (fun hk => by obtain ⟨cs, fr, hg⟩ := HP1.out.tyb _ hk; exact ne_ty HR1.out hg (by decide) rfl)).trans HR1.out; have d4 : w4.cell? ⟨r, 0, none⟩ = some (.slice a1 H.length c1) := (cell_of_row w4 r 0 _ _ _ hr4).trans rfl; have f4 := frozen_of_row w4 r 0 _ _ hr4; obtain ⟨b4, c4, rfl⟩ := hown4.form; clear hown4 hs4 hb4 hr4))
          all_goals
            have hE : Value.slice b4 (H.length + 1) c4 = Value.slice b4 (H ++ [(Od.mk w2.heap.size (.slice a2 L.length c2) j L)]).length c4 := by rw [List.length_append, List.length_singleton]
            rw [hE]
            have hst3 : Stay (fun _ => False) w1 ((w2.alloc (.cells #[.slice a2 L.length c2, .int .i64 (j : Int)] 181)).alloc (.cells #[.pointer (some ⟨w2.heap.size, 0, none⟩)] 179)) := HS2.out.trans ((Stay.alloc _ _).trans (Stay.alloc _ _))
            have hod : OdAt ((w2.alloc (.cells #[.slice a2 L.length c2, .int .i64 (j : Int)] 181)).alloc (.cells #[.pointer (some ⟨w2.heap.size, 0, none⟩)] 179)) (Od.mk w2.heap.size (.slice a2 L.length c2) j L) := ⟨by
              show ((w2.alloc (.cells #[.slice a2 L.length c2, .int .i64 (j : Int)] 181)).alloc (.cells #[.pointer (some ⟨w2.heap.size, 0, none⟩)] 179)).heap[w2.heap.size]? = _
              rw [(Stay.alloc (X := fun _ => False) _ _).block w2.heap.size (by simp) (fun x => x)]
              exact heap_alloc_new w2 _, (Mg.EnO.ent HO2.out).stay ((Stay.alloc (X := fun _ => False) _ _).trans (Stay.alloc _ _)) (fun _ _ x => x)⟩
            have hsz1 : w1.heap.size ≤ w2.heap.size := HS2.out.size
            obtain ⟨k1, k2⟩ := (HRD1.out.stay0 hst3).reset ((hst3.block r hrl (fun x => x)).trans HR1.out) (HP1.out.stay0 hst3) (fun k hk => by have h1 := (HP1.out.lt k hk).2; obtain ⟨v9, h2, h3, h4⟩ := HRD1.out.ex; rw [HR1.out] at h2; cases h2; exact h4 k hk) HS4.out HO4.out (HB4.out.imp (fun e => e) (fun e k hk => by rw [e] at hk; simp at hk; simp; omega)) (fun q hq => by
              rcases List.mem_append.1 hq with hq | hq
              · exact (HRD1.out.stay0 hst3).od q hq
              · rw [List.mem_singleton.1 hq]; exact ⟨hod, by show r ≤ w2.heap.size; omega, fun h => hL0 (by rw [show L = [] from h]; rfl), fun k hk => by have h1 := (HO2.out.lt k hk).1; show r ≤ k; have h2 : w1.drew.heap.size = w1.heap.size := rfl; omega⟩) (by
              rw [List.map_append, List.nodup_append]
              refine ⟨HRD1.out.nd, by simp, fun a ha b hb' => ?_⟩
              obtain ⟨q, hq, rfl⟩ := List.mem_map.1 ha
              simp at hb'
              have h1 := (HRD1.out.od q hq).1.lt
              omega)
            have hk1 := k1.mono (A' := fun k => r ≤ k) (fun k _ hk => by
              rcases hk with hk | hk
              · exact hk
              · have h1 : w2.heap.size ≤ k := Nat.le_trans (by simp; omega) hk
                omega)
            have hk2 := stay_seal (((HSW1.out.trans hst3).mono (Y := fun k => r ≤ k) (fun _ x => x.elim)).trans k2) (fun k hk => by rw [← HRR.out]; exact hk)
            clear k1 k2 hst3 hod hrn
            rw [← hE] at hk1 hk2 ⊢
            have HK1 := Lib.hid hk1
            have HK2 := Lib.hid hk2
            clear hk1 hk2 d4 f4 hE d2
            go_wp2
            refine ⟨⟨j + 1, H ++ [Od.mk w2.heap.size (.slice a2 L.length c2) j L], by go_num, hlt, Lib.hid (fun q hq => ?_), Lib.hid (HSF.out.put HL.out rfl rfl (fun h => hL0 (by rw [h]; rfl)) HSL.out), HK1, HK2⟩, by simp [intOf]; omega⟩
            rw [List.take_add_one, HL.out] at hq
            rcases List.mem_append.1 hq with hq | hq
            · exact HSO.out q hq
            · simp at hq; rw [hq]; exact HSL.out
      · have hdec := decide_eq_false hs
        have HNS := Lib.hid (show ¬ ∀ L ∈ Ls, Sorted L from fun h => hs (h L (List.mem_of_getElem? HL.out)))
        clear hs
        go_wp2_with fail
        refine HASC.out.mono ?_
        rintro e w1 ⟨rfl, hs1⟩
        rw [hdec]
        have HS1 := Lib.hid hs1
        clear hs1
        go_wp2
        refine bodyPost_ret (v := .tuple #[.pointer none, .iface 66 (.int .i64 41)]) (by simp [results, Tryz.results75]) rfl ?_
        exact ⟨HS.out.trans HS1.out, .inr ⟨HNS.out, rfl⟩⟩
    · obtain rfl : j = Ls.length := by omega
      have HALL := Lib.hid (show ∀ L ∈ Ls, Sorted L from by have h1 := HSO.out; rwa [List.take_length] at h1)
      have HIN := Lib.hid (init_any (fun k => r ≤ k) wr r H HR.out (by have := HSF.out.len; have := HLEN.out; omega))
      unfold hv at HIN
      go_wp2_with fail
      refine HIN.out.mono ?_
      rintro e w1 ⟨H', rfl, hr', hp', hf', hs'⟩
      have HR' := Lib.hid hr'
      have HP' := Lib.hid hp'
      have HF' := Lib.hid hf'
      have HS' := Lib.hid hs'
      clear hr' hp' hf' hs'
      go_wp2
      refine bodyPost_ret (v := .tuple #[.pointer (some ⟨r, 0, none⟩), .nilIface]) (by simp [results, Tryz.results75]) rfl ?_
      refine ⟨?_, .inl ⟨r, HALL.out, rfl, ⟨H', HR'.out.mono (fun k _ hk => by rw [← HRR.out]; exact hk), HF'.out, HSF.out.g.perm HP'.out, ?_, ?_⟩⟩⟩
      · exact stay_seal ((HS.out.mono (Y := fun k => r ≤ k) (fun _ x => x.elim)).trans HS'.out) (fun k hk => by rw [← HRR.out]; exact hk)
      · rw [has_perm HP'.out]
        have h1 : hasO H = hasL 0 Ls := by
          funext n x
          have := HSF.out.h n x
          rw [List.take_length] at this
          exact propext this
        rw [h1]
        exact allN_tells Ls 0 HALL.out
      · rw [HP'.out.length_eq]
        exact HSF.out.len
end Go.Proofs.YtljlfdhjolcnaaaGreat.Mg

/-
  merge: All.
-/
namespace Go.Proofs.YtljlfdhjolcnaaaGreat.Mg
open Go.RowKit Go.Maps Me
set_option maxRecDepth 100000
set_option linter.unusedVariables false

/-- A slice of one entry, made. -/
theorem list_one_en {ops : Array Oper} {rest : List Oper} {o : Oper} {a : Act} {w : World} {Q : Exit → Act → World → Prop} (hgd : o.guard = none) (x : Operand) (ho : o.op = .buildSlice 34 1 #[(0, x)]) (e : En) (hx : a.eval x = enV e)
    (h : wpList Tryz.prog ops Q rest (a.put o.dst (.slice (some ⟨w.heap.size, 0, none⟩) 1 1)) (w.alloc (.cells (enC e).toArray 42))) : wpList Tryz.prog ops Q (o :: rest) a w := by
  obtain ⟨i0, hi0, hz0, hzs, hzb⟩ := info_parts info_en
  refine wpList_buildSlice hgd 34 42 1 #[(0, x)] ho (enC e).toArray i0 zeroV Tryz.underlying34 hi0 hz0 (by rw [hzs]; decide) (by rw [hzs]; decide) ?_ h
  rw [hzs]
  simp only [List.map_toArray, List.map_cons, List.map_nil, hx]
  simp [Instr.fill, enV, enC, zeroV, Value.cells, Array.range]
  apply Array.ext_getElem?
  intro j
  match j with
  | 0 => simp
  | 1 => simp
  | 2 => simp
  | j + 3 => simp
/-- Without those that are gone, if so asked. -/
def keepL (d : Bool) (L : List En) : List En := if d then L.filter (fun e => !e.g) else L
theorem keep_snoc (d : Bool) (L : List En) (e : En) : keepL d (L ++ [e]) = if !e.g || !d then keepL d L ++ [e] else keepL d L := by
  unfold keepL
  cases d <;> cases h : e.g <;> simp [h]
theorem keep_len (d : Bool) (L : List En) : (keepL d L).length ≤ L.length := by
  unfold keepL
  split
  · exact List.length_filter_le _ _
  · exact Nat.le_refl _
/-- How many entries all orders have. -/
def sumL (Ls : List (List En)) : Nat := (Ls.map List.length).sum
theorem putsF_len : ∀ (l M : List En), (putsF M l).length ≤ M.length + l.length
  | [], M => Nat.le_refl _
  | e :: r, M => by
    have h1 := putsF_len r (putL M e)
    have h2 := length_putL_le M e
    show (putsF (putL M e) r).length ≤ _
    rw [List.length_cons]
    omega
theorem allN_len : ∀ Ls : List (List En), (allN Ls).length ≤ sumL Ls
  | [] => Nat.le_refl _
  | l :: r => by
    have h1 := putsF_len l (allN r)
    have h2 := allN_len r
    show (putsF (allN r) l).length ≤ _
    simp only [sumL, List.map_cons, List.sum_cons] at h2 ⊢
    omega
theorem sumL_at {Ls : List (List En)} {L : List En} (h : L ∈ Ls) : L.length ≤ sumL Ls := by
  induction Ls with
  | nil => cases h
  | cons a r ih =>
    simp only [sumL, List.map_cons, List.sum_cons]
    rcases List.mem_cons.1 h with rfl | h
    · omega
    · have := ih h
      unfold sumL at this
      omega

/-- Next of a reader, whatever is left: what it tells. -/
theorem next_any (A : Nat → Prop) (w : World) (r N : Nat) (L : List En) (h : RdS A w r L N) (hN : N ≤ 10000) : Calls Tryz.prog 76 #[.pointer (some ⟨r, 0, none⟩)] w fun e w' =>
    ∃ b x, e = .returned (.tuple #[enV x, .bool b]) ∧ RdS (fun k => A k ∨ w.heap.size ≤ k) w' r L.tail N ∧ Stay A w w' ∧ leftW w' r + (if b then 1 else 0) ≤ leftW w r ∧ L = (if b then [x] else []) ++ L.tail ∧ (b = false → x = ⟨[], [], false⟩) := by
  cases L with
  | nil =>
    refine (next_done A w r N h).mono ?_
    rintro e w' ⟨h1, h2⟩
    refine ⟨false, _, h1, (h.stay0 h2).mono (fun k _ hk => .inl hk), h2.mono (fun _ x => x.elim), ?_, rfl, fun _ => rfl⟩
    obtain ⟨H, h3, _⟩ := h.ex
    rw [h3.left, (h3.stay0 h2).left]
    simp
  | cons e0 L =>
    refine (next_some A w r N e0 L h hN).mono ?_
    rintro e w' ⟨h1, h2, h3, h4⟩
    exact ⟨true, _, h1, h2, h3, by simp; omega, rfl, fun h => by cases h⟩

def tN (v : Value) : Nat := match v with | .bool true => 1 | _ => 0
/-- What holds while all are gone through. -/
structure AllSt (w : World) (r N : Nat) (d : Bool) (M : List En) (W : World) (v : Value) (b : Nat) (t : Bool) (done rest : List En) (cur : En) (A : Nat → Prop) : Prop where
  al : EnO w.heap.size W v (keepL d done)
  eq : M = done ++ (if t then [cur] else []) ++ rest
  tf : t = false → rest = []
  bx : Box W b cur
  rd : RdS A W r rest N
  ab : ¬ A b
  av : ∀ k, v.ownBlock = some k → ¬ A k
  aw : ∀ k, A k → w.heap.size ≤ k ∧ k < W.heap.size
  vb : ∀ k, v.ownBlock = some k → k ≠ b
  bw : w.heap.size ≤ b
  st : Stay (fun _ => False) w W

set_option maxHeartbeats 4000000 in
theorem all_any (w : World) (x : Value) (Ls : List (List En)) (d : Bool) (hx : ESs w x Ls) (hlen : Ls.length ≤ 1000) (hsz : sumL Ls ≤ 1000) :
    Calls Tryz.prog 79 #[x, .bool d] w fun e w' => Stay (fun _ => False) w w' ∧ (((∀ L ∈ Ls, Sorted L) ∧ ∃ v, e = .returned (.tuple #[v, .nilIface]) ∧ EnO w.heap.size w' v (keepL d (allN Ls))) ∨
      ((¬ ∀ L ∈ Ls, Sorted L) ∧ e = .returned (.tuple #[.slice none 0 0, .iface 66 (.int .i64 41)]))) := by
  have HNEW := Lib.hid (new_any w x Ls hx hlen (fun L hL => Nat.le_trans (sumL_at hL) hsz))
  have HLEN := Lib.hid hlen
  have HSZ := Lib.hid (Nat.le_trans (allN_len Ls) hsz)
  obtain ⟨a0, c, rfl⟩ := hx.form
  clear hx hlen hsz
  go_enter Tryz.func79, Tryz.ntmps79
  go_wp2_with fail
  refine HNEW.out.mono ?_
  rintro e w1 ⟨hs1, hc⟩
  have HS1 := Lib.hid hs1
  rcases hc with ⟨r, hall, rfl, hrd⟩ | ⟨hna, rfl⟩
  · have HALL := Lib.hid hall
    have HRD := Lib.hid hrd
    clear hs1 hall hrd HNEW
    go_wp2_with fail
    refine (next_any (fun k => w.heap.size ≤ k ∧ k < w1.heap.size) w1 r Ls.length (allN Ls) (HRD.out.mono (fun k hk h => ⟨h, hk⟩)) (by have := HLEN.out; omega)).mono ?_
    rintro e w2 ⟨t0, x0, rfl, hr2, hs2, _, he2, hx2⟩
    have HBN := Lib.hid (Box.new w2 ⟨[], [], false⟩)
    have HA3 := Lib.hid (show Stay (fun _ => False) w2 (w2.alloc (.cells (enC ⟨[], [], false⟩).toArray 42)) from Stay.alloc _ _)
    have HZ3 := Lib.hid (show (w2.alloc (.cells (enC ⟨[], [], false⟩).toArray 42)).heap.size = w2.heap.size + 1 by simp)
    obtain ⟨w3, hw3⟩ : ∃ w3, w2.alloc (.cells (enC ⟨[], [], false⟩).toArray 42) = w3 := ⟨_, rfl⟩
    rw [hw3] at HBN HA3 HZ3
    have W3 := Lib.hid hw3
    have HR2 := Lib.hid hr2
    have HS2 := Lib.hid hs2
    have HE2 := Lib.hid he2
    have HX2 := Lib.hid hx2
    clear hr2 hs2 he2 hx2 hw3
    go_wp2_with (first
      | (with_reducible refine alloc_en rfl rfl ?_; rw [W3.out])
      | (refine Box.store HBN.out rfl (.tmp 9) (.tmp 22) rfl rfl x0 rfl ?_
         intro w4 hb4 hs4
         have H4 := Lib.hid hb4
         have HS4 := Lib.hid hs4
         clear hb4 hs4))
    have HST := Lib.hid (show AllSt w r Ls.length d (allN Ls) w4 (.slice none 0 0) w2.heap.size t0 [] (allN Ls).tail x0 (fun k => w.heap.size ≤ k ∧ k < w2.heap.size) from by
      have z1 := HS1.out.size
      have z2 := HS2.out.size
      have z3 := HZ3.out
      have z4 := HS4.out.size
      refine ⟨by cases d <;> exact EnO.nil _ _, ?_, fun h => ?_, H4.out, ?_, (fun h => by omega), (fun k hk => by cases hk), (fun k h => ⟨h.1, by omega⟩), (fun k hk => by cases hk), (by omega), ?_⟩
      · rw [List.nil_append]; exact HE2.out
      · have h1 := HE2.out
        rw [h] at h1
        cases hM : allN Ls with
        | nil => rfl
        | cons a r => rw [hM] at h1; have := congrArg List.length h1; simp at this
      · exact ((HR2.out.mono (A' := fun k => w.heap.size ≤ k ∧ k < w2.heap.size) (fun k hk h => ⟨h.elim (fun h => h.1) (fun h => by omega), hk⟩)).stay0 HA3.out).stay HS4.out (fun k hk e => by have h2 : k = w2.heap.size := e; omega)
      · exact stay_seal ((((HS1.out.mono (Y := fun k => w.heap.size ≤ k) (fun _ x => x.elim)).trans (HS2.out.mono (fun k hk => hk.1))).trans (HA3.out.mono (fun _ x => x.elim))).trans (HS4.out.mono (fun k e => by have h2 : k = w2.heap.size := e; omega))) (fun k hk => hk))
    clear HBN HA3 W3 HR2 HE2 HX2 H4
    try go_frame
    go_loopw [8, 9, 10] (fun v bp t wr => ∃ (b : Nat) (tb : Bool) (done rest : List En) (cur : En) (A : Nat → Prop), bp = .pointer (some ⟨b, 0, none⟩) ∧ t = .bool tb ∧ Hid (AllSt w r Ls.length d (allN Ls) wr v b tb done rest cur A)) (fun _ _ t wr => leftW wr r + tN t)
    case atStart => exact ⟨w2.heap.size, t0, [], _, x0, _, rfl, rfl, HST⟩
    case round =>
      obtain ⟨b, tb, done, rest, cur, A, rfl, rfl, HS⟩ := hrel
      cases tb with
      | false =>
        have HM := Lib.hid (show allN Ls = done from by have h1 := HS.out.eq; rw [HS.out.tf rfl] at h1; simpa using h1)
        go_wp2
        refine bodyPost_ret (v := .tuple #[u8, .nilIface]) (by simp [results, Tryz.results79]) rfl ⟨HS.out.st, .inl ⟨HALL.out, _, rfl, by rw [HM.out]; exact HS.out.al⟩⟩
      | true =>
        cases hg : cur.g with
        | false =>
          have c2 := HS.out.bx.c (j := 2) rfl
          rw [hg] at c2
          obtain ⟨va, vc, hvf⟩ := HS.out.al.form
          have HKS := Lib.hid (show keepL d (done ++ [cur]) = keepL d done ++ [cur] from by rw [keep_snoc, hg]; simp)
          have HB := Lib.hid HS.out.bx
          have HDL := Lib.hid (show (keepL d done).length ≤ 1000 from by
            have h1 := keep_len d done
            have h2 := HSZ.out
            have h3 := congrArg List.length HS.out.eq
            simp only [List.length_append] at h3
            omega)
          have HBO := Lib.hid (Box.new wr cur)
          have HA4 := Lib.hid (show Stay (fun _ => False) wr (wr.alloc (.cells (enC cur).toArray 42)) from Stay.alloc _ _)
          obtain ⟨w4b, hw4⟩ : ∃ w4b, wr.alloc (.cells (enC cur).toArray 42) = w4b := ⟨_, rfl⟩
          rw [hw4] at HBO HA4
          have W4 := Lib.hid hw4
          have HO4 := Lib.hid (HS.out.al.stay0 HA4.out)
          have HZ4 := Lib.hid (show w.heap.size ≤ w4b.heap.size from Nat.le_trans HS.out.st.size HA4.out.size)
          clear hw4 hvf
          go_wp2_with (first
            | (refine wpList_load_run (by rfl) 42 (.tmp 9) rfl ⟨b, 0, none⟩ rfl _ HB.out.run_load ?_)
            | (refine list_one_en rfl (.tmp 38) rfl cur rfl ?_; rw [W4.out])
            | (at_builtin
               refine wpList_append_en rfl (.tmp 37) (.tmp 39) 34 rfl Tryz.underlying34 rfl rfl HO4.out (HBO.out.one 1 (by decide) (by decide)) (by rw [List.length_singleton]; have := HDL.out; omega) HZ4.out ?_
               intro v5 w5 ho5 hs5 hb5
               have HQ5 := Lib.hid (show EnO w.heap.size w5 v5 (keepL d (done ++ [cur])) ∧ RdS A w5 r rest Ls.length ∧ (∀ k, v5.ownBlock = some k → ¬ A k) ∧ Stay (fun k => u8.ownBlock = some k) wr w5 from by
                 refine ⟨by rw [HKS.out]; exact ho5, (HS.out.rd.stay0 HA4.out).stay hs5 (fun k hk e => HS.out.av k e hk), fun k hk h => ?_, (HA4.out.mono (fun _ x => x.elim)).trans hs5⟩
                 rcases hb5 with e | e
                 · rw [e] at hk; exact HS.out.av k hk h
                 · rw [e] at hk
                   have h1 := (HS.out.aw k h).2
                   have h2 := HA4.out.size
                   cases hk
                   omega)
               have HB5 := Lib.hid ((HB.out.stay0 HA4.out).stay hs5 (fun e => HS.out.vb _ e rfl))
               have HBN := Lib.hid (Box.new w5 ⟨[], [], false⟩)
               have HA6 := Lib.hid (show Stay (fun _ => False) w5 (w5.alloc (.cells (enC ⟨[], [], false⟩).toArray 42)) from Stay.alloc _ _)
               have HZ6 := Lib.hid (show (w5.alloc (.cells (enC ⟨[], [], false⟩).toArray 42)).heap.size = w5.heap.size + 1 by simp)
               obtain ⟨w6, hw6⟩ : ∃ w6, w5.alloc (.cells (enC ⟨[], [], false⟩).toArray 42) = w6 := ⟨_, rfl⟩
               rw [hw6] at HBN HA6 HZ6
               have W6 := Lib.hid hw6
               clear ho5 hs5 hb5 hw6)
            | (refine wpList_load_run (by rfl) 42 (.tmp 9) rfl ⟨b, 0, none⟩ rfl _ HB5.out.run_load ?_)
            | (with_reducible refine alloc_en rfl rfl ?_; rw [W6.out])
            | (refine Box.store HBN.out rfl (.tmp 9) (.tmp 41) rfl rfl cur rfl ?_
               intro w7 hb7 hs7
               have HB7 := Lib.hid hb7
               have HSB := Lib.hid hs7
               clear hb7 hs7))
          have HS7 := Lib.hid (show Stay (· = w5.heap.size) w5 w7 from (HA6.out.mono (fun _ x => x.elim)).trans HSB.out)
          have HZ7 := Lib.hid (show w5.heap.size < w7.heap.size from by have h1 := HSB.out.size; have h2 := HZ6.out; omega)
          have HR7 := Lib.hid (HQ5.out.2.1.stay HS7.out (fun k hk e => by have h1 := (HS.out.aw k hk).2; have h2 : k = w5.heap.size := e; have h3 := HQ5.out.2.2.2.size; omega))
          have HNX := Lib.hid (next_any A w7 r Ls.length rest HR7.out (by have := HLEN.out; omega))
          go_wp2_with fail
          refine HNX.out.mono ?_
          rintro e w8 ⟨t8, x8, rfl, hr8, hs8, hm8, he8, hx8⟩
          have HR8 := Lib.hid hr8
          have HS8 := Lib.hid hs8
          have HM8 := Lib.hid hm8
          have HE8 := Lib.hid he8
          have HB8 := Lib.hid (HB7.out.stay hs8 (fun h => by have h1 := (HS.out.aw _ h).2; have h2 := HQ5.out.2.2.2.size; omega))
          clear hr8 hs8 hm8 he8 hx8 HNX
          go_wp2_with (first
            | (refine Box.store HB8.out rfl (.tmp 9) (.tmp 28) rfl rfl x8 rfl ?_
               intro w9 hb9 hs9
               have HB9 := Lib.hid hb9
               have HS9 := Lib.hid hs9
               clear hb9 hs9))
          have z1 := HQ5.out.2.2.2.size
          have z2 := HZ7.out
          have z3 := HS8.out.size
          have z4 := HS9.out.size
          have z5 := HS.out.st.size
          have hav : ∀ k, v5.ownBlock = some k → ¬ A k ∧ k < w5.heap.size := fun k hk => ⟨HQ5.out.2.2.1 k hk, (HQ5.out.1.lt k hk).2⟩
          refine ⟨⟨w5.heap.size, t8, done ++ [cur], rest.tail, x8, fun k => (A k ∨ w7.heap.size ≤ k) ∧ k < w8.heap.size, rfl, rfl, Lib.hid ⟨?_, ?_, ?_, HB9.out, ?_, ?_, ?_, ?_, ?_, ?_, ?_⟩⟩, ?_⟩
          · exact ((HQ5.out.1.stay HS7.out (fun k hk e => by have h1 := (hav k hk).2; have h2 : k = w5.heap.size := e; omega)).stay HS8.out (fun k hk h => (hav k hk).1 h)).stay HS9.out (fun k hk e => by have h1 := (hav k hk).2; have h2 : k = w5.heap.size := e; omega)
          · have h1 := HS.out.eq
            have h2 := HE8.out
            rw [h1]
            simp only [if_true, List.append_assoc]
            congr 2
          · intro h
            have h2 := HE8.out
            rw [h] at h2
            cases hM : rest with
            | nil => rfl
            | cons a r => rw [hM] at h2; have := congrArg List.length h2; simp at this
          · exact (HR8.out.mono (A' := fun k => (A k ∨ w7.heap.size ≤ k) ∧ k < w8.heap.size) (fun k hk h => ⟨h, hk⟩)).stay HS9.out (fun k hk e => by have h2 : k = w5.heap.size := e; exact hk.1.elim (fun h => by have h1 := (HS.out.aw k h).2; omega) (fun h => by omega))
          · intro h
            rcases h.1 with h | h
            · have h1 := (HS.out.aw _ h).2
              omega
            · omega
          · intro k hk h
            rcases h.1 with h | h
            · exact (hav k hk).1 h
            · have h1 := (hav k hk).2
              omega
          · intro k h
            refine ⟨h.1.elim (fun h => (HS.out.aw k h).1) (fun h => by omega), by have := h.2; omega⟩
          · intro k hk e
            have h1 := (hav k hk).2
            omega
          · omega
          · exact stay_seal ((((HS.out.st.mono (Y := fun k => w.heap.size ≤ k) (fun _ x => x.elim)).trans (HQ5.out.2.2.2.mono (fun k hk => (HS.out.al.lt k hk).1))).trans (HS7.out.mono (fun k e => by have h2 : k = w5.heap.size := e; omega))).trans ((HS8.out.mono (fun k hk => (HS.out.aw k hk).1)).trans (HS9.out.mono (fun k e => by have h2 : k = w5.heap.size := e; omega)))) (fun k hk => hk)
          · obtain ⟨H1, k1, _⟩ := HS.out.rd.ex
            obtain ⟨H2, k2, _⟩ := HR7.out.ex
            obtain ⟨H3, k3, _⟩ := HR8.out.ex
            have hl1 : leftW w7 r = leftW wr r := by
              have j1 := (k1.stay HQ5.out.2.2.2 (fun k hk e => HS.out.av k e hk)).stay HS7.out (fun k hk e => by have h1 := (HS.out.aw k hk).2; have h2 : k = w5.heap.size := e; omega)
              rw [j1.left, k1.left]
            have hl2 : leftW w9 r = leftW w8 r := by
              rw [k3.left, ((k3.mono (A' := fun k => (A k ∨ w7.heap.size ≤ k) ∧ k < w8.heap.size) (fun k hk h => ⟨h, hk⟩)).stay HS9.out (fun k hk e => by have h2 : k = w5.heap.size := e; exact hk.1.elim (fun h => by have h1 := (HS.out.aw k h).2; omega) (fun h => by omega))).left]
            have h1 := HM8.out
            rw [hl1] at h1
            show leftW w9 r + tN (.bool t8) < leftW wr r + tN (.bool true)
            rw [hl2]
            cases t8 <;> simp [tN] at h1 ⊢ <;> omega
        | true =>
          cases d with
          | false =>
            have c2 := HS.out.bx.c (j := 2) rfl
            rw [hg] at c2
            obtain ⟨va, vc, hvf⟩ := HS.out.al.form
            have HKS := Lib.hid (show keepL false (done ++ [cur]) = keepL false done ++ [cur] from by rw [keep_snoc, hg]; simp)
            have HB := Lib.hid HS.out.bx
            have HDL := Lib.hid (show (keepL false done).length ≤ 1000 from by
              have h1 := keep_len false done
              have h2 := HSZ.out
              have h3 := congrArg List.length HS.out.eq
              simp only [List.length_append] at h3
              omega)
            have HBO := Lib.hid (Box.new wr cur)
            have HA4 := Lib.hid (show Stay (fun _ => False) wr (wr.alloc (.cells (enC cur).toArray 42)) from Stay.alloc _ _)
            obtain ⟨w4b, hw4⟩ : ∃ w4b, wr.alloc (.cells (enC cur).toArray 42) = w4b := ⟨_, rfl⟩
            rw [hw4] at HBO HA4
            have W4 := Lib.hid hw4
            have HO4 := Lib.hid (HS.out.al.stay0 HA4.out)
            have HZ4 := Lib.hid (show w.heap.size ≤ w4b.heap.size from Nat.le_trans HS.out.st.size HA4.out.size)
            clear hw4 hvf
            go_wp2_with (first
              | (refine wpList_load_run (by rfl) 42 (.tmp 9) rfl ⟨b, 0, none⟩ rfl _ HB.out.run_load ?_)
              | (refine list_one_en rfl (.tmp 38) rfl cur rfl ?_; rw [W4.out])
              | (at_builtin
                 refine wpList_append_en rfl (.tmp 37) (.tmp 39) 34 rfl Tryz.underlying34 rfl rfl HO4.out (HBO.out.one 1 (by decide) (by decide)) (by rw [List.length_singleton]; have := HDL.out; omega) HZ4.out ?_
                 intro v5 w5 ho5 hs5 hb5
                 have HQ5 := Lib.hid (show EnO w.heap.size w5 v5 (keepL false (done ++ [cur])) ∧ RdS A w5 r rest Ls.length ∧ (∀ k, v5.ownBlock = some k → ¬ A k) ∧ Stay (fun k => u8.ownBlock = some k) wr w5 from by
                   refine ⟨by rw [HKS.out]; exact ho5, (HS.out.rd.stay0 HA4.out).stay hs5 (fun k hk e => HS.out.av k e hk), fun k hk h => ?_, (HA4.out.mono (fun _ x => x.elim)).trans hs5⟩
                   rcases hb5 with e | e
                   · rw [e] at hk; exact HS.out.av k hk h
                   · rw [e] at hk
                     have h1 := (HS.out.aw k h).2
                     have h2 := HA4.out.size
                     cases hk
                     omega)
                 have HB5 := Lib.hid ((HB.out.stay0 HA4.out).stay hs5 (fun e => HS.out.vb _ e rfl))
                 have HBN := Lib.hid (Box.new w5 ⟨[], [], false⟩)
                 have HA6 := Lib.hid (show Stay (fun _ => False) w5 (w5.alloc (.cells (enC ⟨[], [], false⟩).toArray 42)) from Stay.alloc _ _)
                 have HZ6 := Lib.hid (show (w5.alloc (.cells (enC ⟨[], [], false⟩).toArray 42)).heap.size = w5.heap.size + 1 by simp)
                 obtain ⟨w6, hw6⟩ : ∃ w6, w5.alloc (.cells (enC ⟨[], [], false⟩).toArray 42) = w6 := ⟨_, rfl⟩
                 rw [hw6] at HBN HA6 HZ6
                 have W6 := Lib.hid hw6
                 clear ho5 hs5 hb5 hw6)
              | (refine wpList_load_run (by rfl) 42 (.tmp 9) rfl ⟨b, 0, none⟩ rfl _ HB5.out.run_load ?_)
              | (with_reducible refine alloc_en rfl rfl ?_; rw [W6.out])
              | (refine Box.store HBN.out rfl (.tmp 9) (.tmp 41) rfl rfl cur rfl ?_
                 intro w7 hb7 hs7
                 have HB7 := Lib.hid hb7
                 have HSB := Lib.hid hs7
                 clear hb7 hs7))
            have HS7 := Lib.hid (show Stay (· = w5.heap.size) w5 w7 from (HA6.out.mono (fun _ x => x.elim)).trans HSB.out)
            have HZ7 := Lib.hid (show w5.heap.size < w7.heap.size from by have h1 := HSB.out.size; have h2 := HZ6.out; omega)
            have HR7 := Lib.hid (HQ5.out.2.1.stay HS7.out (fun k hk e => by have h1 := (HS.out.aw k hk).2; have h2 : k = w5.heap.size := e; have h3 := HQ5.out.2.2.2.size; omega))
            have HNX := Lib.hid (next_any A w7 r Ls.length rest HR7.out (by have := HLEN.out; omega))
            go_wp2_with fail
            refine HNX.out.mono ?_
            rintro e w8 ⟨t8, x8, rfl, hr8, hs8, hm8, he8, hx8⟩
            have HR8 := Lib.hid hr8
            have HS8 := Lib.hid hs8
            have HM8 := Lib.hid hm8
            have HE8 := Lib.hid he8
            have HB8 := Lib.hid (HB7.out.stay hs8 (fun h => by have h1 := (HS.out.aw _ h).2; have h2 := HQ5.out.2.2.2.size; omega))
            clear hr8 hs8 hm8 he8 hx8 HNX
            go_wp2_with (first
              | (refine Box.store HB8.out rfl (.tmp 9) (.tmp 28) rfl rfl x8 rfl ?_
                 intro w9 hb9 hs9
                 have HB9 := Lib.hid hb9
                 have HS9 := Lib.hid hs9
                 clear hb9 hs9))
            have z1 := HQ5.out.2.2.2.size
            have z2 := HZ7.out
            have z3 := HS8.out.size
            have z4 := HS9.out.size
            have z5 := HS.out.st.size
            have hav : ∀ k, v5.ownBlock = some k → ¬ A k ∧ k < w5.heap.size := fun k hk => ⟨HQ5.out.2.2.1 k hk, (HQ5.out.1.lt k hk).2⟩
            refine ⟨⟨w5.heap.size, t8, done ++ [cur], rest.tail, x8, fun k => (A k ∨ w7.heap.size ≤ k) ∧ k < w8.heap.size, rfl, rfl, Lib.hid ⟨?_, ?_, ?_, HB9.out, ?_, ?_, ?_, ?_, ?_, ?_, ?_⟩⟩, ?_⟩
            · exact ((HQ5.out.1.stay HS7.out (fun k hk e => by have h1 := (hav k hk).2; have h2 : k = w5.heap.size := e; omega)).stay HS8.out (fun k hk h => (hav k hk).1 h)).stay HS9.out (fun k hk e => by have h1 := (hav k hk).2; have h2 : k = w5.heap.size := e; omega)
            · have h1 := HS.out.eq
              have h2 := HE8.out
              rw [h1]
              simp only [if_true, List.append_assoc]
              congr 2
            · intro h
              have h2 := HE8.out
              rw [h] at h2
              cases hM : rest with
              | nil => rfl
              | cons a r => rw [hM] at h2; have := congrArg List.length h2; simp at this
            · exact (HR8.out.mono (A' := fun k => (A k ∨ w7.heap.size ≤ k) ∧ k < w8.heap.size) (fun k hk h => ⟨h, hk⟩)).stay HS9.out (fun k hk e => by have h2 : k = w5.heap.size := e; exact hk.1.elim (fun h => by have h1 := (HS.out.aw k h).2; omega) (fun h => by omega))
            · intro h
              rcases h.1 with h | h
              · have h1 := (HS.out.aw _ h).2
                omega
              · omega
            · intro k hk h
              rcases h.1 with h | h
              · exact (hav k hk).1 h
              · have h1 := (hav k hk).2
                omega
            · intro k h
              refine ⟨h.1.elim (fun h => (HS.out.aw k h).1) (fun h => by omega), by have := h.2; omega⟩
            · intro k hk e
              have h1 := (hav k hk).2
              omega
            · omega
            · exact stay_seal ((((HS.out.st.mono (Y := fun k => w.heap.size ≤ k) (fun _ x => x.elim)).trans (HQ5.out.2.2.2.mono (fun k hk => (HS.out.al.lt k hk).1))).trans (HS7.out.mono (fun k e => by have h2 : k = w5.heap.size := e; omega))).trans ((HS8.out.mono (fun k hk => (HS.out.aw k hk).1)).trans (HS9.out.mono (fun k e => by have h2 : k = w5.heap.size := e; omega)))) (fun k hk => hk)
            · obtain ⟨H1, k1, _⟩ := HS.out.rd.ex
              obtain ⟨H2, k2, _⟩ := HR7.out.ex
              obtain ⟨H3, k3, _⟩ := HR8.out.ex
              have hl1 : leftW w7 r = leftW wr r := by
                have j1 := (k1.stay HQ5.out.2.2.2 (fun k hk e => HS.out.av k e hk)).stay HS7.out (fun k hk e => by have h1 := (HS.out.aw k hk).2; have h2 : k = w5.heap.size := e; omega)
                rw [j1.left, k1.left]
              have hl2 : leftW w9 r = leftW w8 r := by
                rw [k3.left, ((k3.mono (A' := fun k => (A k ∨ w7.heap.size ≤ k) ∧ k < w8.heap.size) (fun k hk h => ⟨h, hk⟩)).stay HS9.out (fun k hk e => by have h2 : k = w5.heap.size := e; exact hk.1.elim (fun h => by have h1 := (HS.out.aw k h).2; omega) (fun h => by omega))).left]
              have h1 := HM8.out
              rw [hl1] at h1
              show leftW w9 r + tN (.bool t8) < leftW wr r + tN (.bool true)
              rw [hl2]
              cases t8 <;> simp [tN] at h1 ⊢ <;> omega
          | true =>
            have c2 := HS.out.bx.c (j := 2) rfl
            rw [hg] at c2
            have HB5 := Lib.hid HS.out.bx
            have HQ5 := Lib.hid (show EnO w.heap.size wr u8 (keepL true (done ++ [cur])) ∧ RdS A wr r rest Ls.length ∧ (∀ k, u8.ownBlock = some k → ¬ A k) ∧ Stay (fun k => u8.ownBlock = some k) wr wr from
              ⟨by rw [keep_snoc, hg]; exact HS.out.al, HS.out.rd, HS.out.av, Stay.refl _ _⟩)
            have HBN := Lib.hid (Box.new wr ⟨[], [], false⟩)
            have HA6 := Lib.hid (show Stay (fun _ => False) wr (wr.alloc (.cells (enC ⟨[], [], false⟩).toArray 42)) from Stay.alloc _ _)
            have HZ6 := Lib.hid (show (wr.alloc (.cells (enC ⟨[], [], false⟩).toArray 42)).heap.size = wr.heap.size + 1 by simp)
            obtain ⟨w6, hw6⟩ : ∃ w6, wr.alloc (.cells (enC ⟨[], [], false⟩).toArray 42) = w6 := ⟨_, rfl⟩
            rw [hw6] at HBN HA6 HZ6
            have W6 := Lib.hid hw6
            clear hw6
            go_wp2_with (first
              | (refine wpList_load_run (by rfl) 42 (.tmp 9) rfl ⟨b, 0, none⟩ rfl _ HB5.out.run_load ?_)
              | (with_reducible refine alloc_en rfl rfl ?_; rw [W6.out])
              | (refine Box.store HBN.out rfl (.tmp 9) (.tmp 41) rfl rfl cur rfl ?_
                 intro w7 hb7 hs7
                 have HB7 := Lib.hid hb7
                 have HSB := Lib.hid hs7
                 clear hb7 hs7))
            have HS7 := Lib.hid (show Stay (· = wr.heap.size) wr w7 from (HA6.out.mono (fun _ x => x.elim)).trans HSB.out)
            have HZ7 := Lib.hid (show wr.heap.size < w7.heap.size from by have h1 := HSB.out.size; have h2 := HZ6.out; omega)
            have HR7 := Lib.hid (HQ5.out.2.1.stay HS7.out (fun k hk e => by have h1 := (HS.out.aw k hk).2; have h2 : k = wr.heap.size := e; have h3 := HQ5.out.2.2.2.size; omega))
            have HNX := Lib.hid (next_any A w7 r Ls.length rest HR7.out (by have := HLEN.out; omega))
            go_wp2_with fail
            refine HNX.out.mono ?_
            rintro e w8 ⟨t8, x8, rfl, hr8, hs8, hm8, he8, hx8⟩
            have HR8 := Lib.hid hr8
            have HS8 := Lib.hid hs8
            have HM8 := Lib.hid hm8
            have HE8 := Lib.hid he8
            have HB8 := Lib.hid (HB7.out.stay hs8 (fun h => by have h1 := (HS.out.aw _ h).2; have h2 := HQ5.out.2.2.2.size; omega))
            clear hr8 hs8 hm8 he8 hx8 HNX
            go_wp2_with (first
              | (refine Box.store HB8.out rfl (.tmp 9) (.tmp 28) rfl rfl x8 rfl ?_
                 intro w9 hb9 hs9
                 have HB9 := Lib.hid hb9
                 have HS9 := Lib.hid hs9
                 clear hb9 hs9))
            have z1 := HQ5.out.2.2.2.size
            have z2 := HZ7.out
            have z3 := HS8.out.size
            have z4 := HS9.out.size
            have z5 := HS.out.st.size
            have hav : ∀ k, u8.ownBlock = some k → ¬ A k ∧ k < wr.heap.size := fun k hk => ⟨HQ5.out.2.2.1 k hk, (HQ5.out.1.lt k hk).2⟩
            refine ⟨⟨wr.heap.size, t8, done ++ [cur], rest.tail, x8, fun k => (A k ∨ w7.heap.size ≤ k) ∧ k < w8.heap.size, rfl, rfl, Lib.hid ⟨?_, ?_, ?_, HB9.out, ?_, ?_, ?_, ?_, ?_, ?_, ?_⟩⟩, ?_⟩
            · exact ((HQ5.out.1.stay HS7.out (fun k hk e => by have h1 := (hav k hk).2; have h2 : k = wr.heap.size := e; omega)).stay HS8.out (fun k hk h => (hav k hk).1 h)).stay HS9.out (fun k hk e => by have h1 := (hav k hk).2; have h2 : k = wr.heap.size := e; omega)
            · have h1 := HS.out.eq
              have h2 := HE8.out
              rw [h1]
              simp only [if_true, List.append_assoc]
              congr 2
            · intro h
              have h2 := HE8.out
              rw [h] at h2
              cases hM : rest with
              | nil => rfl
              | cons a r => rw [hM] at h2; have := congrArg List.length h2; simp at this
            · exact (HR8.out.mono (A' := fun k => (A k ∨ w7.heap.size ≤ k) ∧ k < w8.heap.size) (fun k hk h => ⟨h, hk⟩)).stay HS9.out (fun k hk e => by have h2 : k = wr.heap.size := e; exact hk.1.elim (fun h => by have h1 := (HS.out.aw k h).2; omega) (fun h => by omega))
            · intro h
              rcases h.1 with h | h
              · have h1 := (HS.out.aw _ h).2
                omega
              · omega
            · intro k hk h
              rcases h.1 with h | h
              · exact (hav k hk).1 h
              · have h1 := (hav k hk).2
                omega
            · intro k h
              refine ⟨h.1.elim (fun h => (HS.out.aw k h).1) (fun h => by omega), by have := h.2; omega⟩
            · intro k hk e
              have h1 := (hav k hk).2
              omega
            · omega
            · exact stay_seal ((((HS.out.st.mono (Y := fun k => w.heap.size ≤ k) (fun _ x => x.elim)).trans (HQ5.out.2.2.2.mono (fun k hk => (HS.out.al.lt k hk).1))).trans (HS7.out.mono (fun k e => by have h2 : k = wr.heap.size := e; omega))).trans ((HS8.out.mono (fun k hk => (HS.out.aw k hk).1)).trans (HS9.out.mono (fun k e => by have h2 : k = wr.heap.size := e; omega)))) (fun k hk => hk)
            · obtain ⟨H1, k1, _⟩ := HS.out.rd.ex
              obtain ⟨H2, k2, _⟩ := HR7.out.ex
              obtain ⟨H3, k3, _⟩ := HR8.out.ex
              have hl1 : leftW w7 r = leftW wr r := by
                have j1 := k1.stay HS7.out (fun k hk e => by have h1 := (HS.out.aw k hk).2; have h2 : k = wr.heap.size := e; omega)
                rw [j1.left, k1.left]
              have hl2 : leftW w9 r = leftW w8 r := by
                rw [k3.left, ((k3.mono (A' := fun k => (A k ∨ w7.heap.size ≤ k) ∧ k < w8.heap.size) (fun k hk h => ⟨h, hk⟩)).stay HS9.out (fun k hk e => by have h2 : k = wr.heap.size := e; exact hk.1.elim (fun h => by have h1 := (HS.out.aw k h).2; omega) (fun h => by omega))).left]
              have h1 := HM8.out
              rw [hl1] at h1
              show leftW w9 r + tN (.bool t8) < leftW wr r + tN (.bool true)
              rw [hl2]
              cases t8 <;> simp [tN] at h1 ⊢ <;> omega
  · have HNA := Lib.hid hna
    clear hs1 hna HNEW
    go_wp2
    refine bodyPost_ret (v := .tuple #[.slice none 0 0, .iface 66 (.int .i64 41)]) (by simp [results, Tryz.results79]) rfl ⟨HS1.out, .inr ⟨HNA.out, rfl⟩⟩
end Go.Proofs.YtljlfdhjolcnaaaGreat.Mg

/-
  merge's laws: how many there are; orders of one's own.
-/
namespace Go.Proofs.YtljlfdhjolcnaaaGreat.Mg
open Go.RowKit Go.Maps Me
set_option maxRecDepth 100000
set_option linter.unusedVariables false

theorem info_row : (Tryz.prog.info? 34).map (fun i => (i.zero, i.size, i.bytes)) = some (some (.slice none 0 0), 1, 24) := by kernel_rfl
/-- Orders of the call's own. -/
def LsO (base : Nat) (w : World) (v : Value) (Ls : List (List En)) : Prop := ∃ vs : List Value, w.ownsRow base 34 1 v Ls.length vs ∧ ∀ (i : Nat) (L : List En), Ls[i]? = some L → ∃ u, vs[i]? = some u ∧ EnO base w u L
section
variable {base : Nat} {w w' : World} {v : Value} {Ls : List (List En)}
theorem LsO.nil (base : Nat) (w : World) : LsO base w (.slice none 0 0) [] := ⟨[], World.ownsRow_nil w base _ _, fun i L h => by simp at h⟩
theorem LsO.stay0 (h : LsO base w v Ls) (hs : Stay (fun _ => False) w w') : LsO base w' v Ls := by
  obtain ⟨vs, h1, h2⟩ := h
  refine ⟨vs, ⟨h1.1, ?_⟩, fun i L hL => ?_⟩
  · rcases h1.2 with h' | ⟨g, cap, cur, rfl, h4, hg, r⟩
    · exact .inl h'
    · exact .inr ⟨g, cap, cur, rfl, h4, (hs.block g (Array.getElem?_eq_some_iff.1 hg).1 (fun x => x)).trans hg, r⟩
  · obtain ⟨u, k1, k2⟩ := h2 i L hL
    exact ⟨u, k1, k2.stay0 hs⟩
theorem LsO.form (h : LsO base w v Ls) : ∃ a c, v = .slice a Ls.length c := by
  obtain ⟨vs, h1, _⟩ := h
  rcases h1.2 with ⟨e, hn⟩ | ⟨g, cap, cur, e, _⟩
  · exact ⟨none, 0, by rw [e, hn]⟩
  · exact ⟨_, _, e⟩
theorem LsO.lt (h : LsO base w v Ls) : ∀ k, v.ownBlock = some k → base ≤ k ∧ k < w.heap.size := by
  obtain ⟨vs, h1, _⟩ := h
  exact World.ownsRow.lt h1
theorem LsO.ess (h : LsO base w v Ls) : ESs w v Ls := by
  obtain ⟨vs, h1, h2⟩ := h
  have hc := fun g hg => World.ownsRow.cells (g := g) h1 hg
  rcases h1.2 with ⟨e, hn⟩ | ⟨g, cap, cur, e, _, _, k1, k2, _⟩
  · exact ⟨none, 0, by rw [e, hn], by omega, by decide, fun h0 => by omega⟩
  · refine ⟨_, cap, e, k1, by unfold maxLen at k2; omega, fun _ => ⟨g, 0, rfl, fun i L hL => ?_⟩⟩
    obtain ⟨u, q1, q2⟩ := h2 i L hL
    subst e
    have := hc g rfl i u q1
    rw [add_at] at this
    exact ⟨u, this, q2.ens⟩
theorem run_append_ls (t ty : TypeId) (ht : Tryz.prog.underlying t = some (.slice 34)) (hown : LsO base w v Ls) (g c : Nat) (u : Value) (L : List En) (hu : EnO base w u L) (h1 : u.oneCell' = true) (hc : w.cell? ⟨g, 0, none⟩ = some u) (hlen : Ls.length ≤ 1000000) (hbase : base ≤ w.heap.size) :
    ∃ v' w', (Builtin.append_ #[t, t] ty #[v, .slice (some ⟨g, 0, none⟩) 1 c]).run Tryz.prog w = .ok v' w' ∧ LsO base w' v' (Ls ++ [L]) ∧ Stay (fun k => v.ownBlock = some k) w w' ∧ (v'.ownBlock = v.ownBlock ∨ v'.ownBlock = some w.heap.size) := by
  obtain ⟨vs, k1, k2⟩ := hown
  obtain ⟨i0, hi, hz, hsize, hby⟩ := info_parts info_row
  have hty : ∀ k, v.ownBlock = some k → ∃ cs fr, w.heap[k]? = some (.cells cs 34 fr) := by
    intro k hk
    rcases k1.2 with ⟨e, _⟩ | ⟨g', cap, cur, e, h4, hg, _⟩
    · rw [e] at hk; cases hk
    · rw [e] at hk
      have hk' : g' = k := Option.some.inj hk
      subst hk'
      exact ⟨_, _, hg⟩
  obtain ⟨v', w', q1, q2, q3, _, q5⟩ := run_append_own_at (P := Tryz.prog) w base t ty _ i0 (.slice none 0 0) 1 24 ht hi hz hsize hby rfl (by decide) v Ls.length vs k1 ⟨g, 0, none⟩ 1 c [u] rfl
    (fun j x hx => by
      have hj : j = 0 := by
        have := (List.getElem?_eq_some_iff.1 hx).1
        simp at this
        omega
      subst hj
      simp at hx
      rw [← hx, add_at]
      exact hc) (fun x hx => by simp at hx; subst hx; exact h1) (by unfold maxLen; omega) (by omega) hbase
  have hst : Stay (fun k => v.ownBlock = some k) w w' := Stay.grown q3 (fun k hk => hk)
  have hne : ∀ x M, EnO base w x M → EnO base w' x M := fun x M hx => hx.stay hst (fun k hk hv => by
    obtain ⟨cs, fr, hg⟩ := (EnO.ent hx).2 k hk
    obtain ⟨cs', fr', hg'⟩ := hty k hv
    exact ne_ty hg hg' (by decide) rfl)
  refine ⟨v', w', q1, ⟨vs ++ [u], by rw [List.length_append, List.length_singleton]; exact q2, fun i M hM => ?_⟩, hst, q5⟩
  have hvl : vs.length = Ls.length := by rw [k1.1, Nat.mul_one]
  by_cases hi' : i < Ls.length
  · rw [List.getElem?_append_left hi'] at hM
    obtain ⟨x, r1, r2⟩ := k2 i M hM
    exact ⟨x, by rw [List.getElem?_append_left (by omega)]; exact r1, hne x M r2⟩
  · have hi2 : i = Ls.length := by
      have := (List.getElem?_eq_some_iff.1 hM).1
      rw [List.length_append, List.length_singleton] at this
      omega
    subst hi2
    rw [List.getElem?_append_right (Nat.le_refl _), Nat.sub_self] at hM
    cases hM
    exact ⟨u, by rw [List.getElem?_append_right (by omega), hvl, Nat.sub_self]; rfl, hne u L hu⟩
theorem wpList_append_ls {ops : Array Oper} {rest : List Oper} {o : Oper} {a : Act} {Q : Exit → Act → World → Prop} (hgd : o.guard = none) (s y : Operand) (t : TypeId)
    (ho : o.op = .call { callee := .builtin .append, args := #[s, y], argTypes := #[t, t] }) (ht : Tryz.prog.underlying t = some (.slice 34)) (g c : Nat) (u : Value) (L : List En) (hs : a.eval s = v) (hy : a.eval y = .slice (some ⟨g, 0, none⟩) 1 c) (hown : LsO base w v Ls) (hu : EnO base w u L) (h1 : u.oneCell' = true) (hc : w.cell? ⟨g, 0, none⟩ = some u) (hlen : Ls.length ≤ 1000000) (hbase : base ≤ w.heap.size)
    (h : ∀ v' w', LsO base w' v' (Ls ++ [L]) → Stay (fun k => v.ownBlock = some k) w w' → (v'.ownBlock = v.ownBlock ∨ v'.ownBlock = some w.heap.size) → wpList Tryz.prog ops Q rest (a.put o.dst v') w') : wpList Tryz.prog ops Q (o :: rest) a w :=
  wpList_plain hgd fun _ hK => by
    obtain ⟨v', w', hrun, h2, h3, h4⟩ := run_append_ls t o.type ht hown g c u L hu h1 hc hlen hbase
    unfold Oper.wp execOp
    simp only [ho, resolve, invoke, builtin, Sem.run_bind, Sem.run_pure, Result.andThen_ok, List.map_toArray, List.map_cons, List.map_nil, hs, hy, hrun]
    exact hK _ _ (h v' w' h2 h3 h4)
end

end Go.Proofs.YtljlfdhjolcnaaaGreat.Mg

