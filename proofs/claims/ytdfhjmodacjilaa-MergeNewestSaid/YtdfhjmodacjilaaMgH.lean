/-
  merge, plain: a heap of orders: what is left of each, with its place; down, up, the first one taken off.
-/
import Derived.Test.YtdfhjmodacjilaaMgP
namespace Go.Proofs.Ytdfhjmodacjilaa.Mg
open Me
set_option maxRecDepth 100000
set_option linter.unusedVariables false

/-- What is left of an order: its block, its slice, its place, its entries. -/
structure Od where
  p : Nat
  v : Value
  n : Nat
  l : List En
/-- Its first key. -/
def hk (o : Od) : List UInt8 := match o.l with
  | e :: _ => e.k
  | [] => []
/-- Whether one is ahead of another one. -/
def lessO (a b : Od) : Bool := if hk a == hk b then decide (a.n < b.n) else ltB (hk a) (hk b)
theorem less_not {a b : Od} (h : lessO a b = true) : lessO b a = false := by
  unfold lessO at *
  by_cases hq : hk a = hk b
  · simp [hq] at h ⊢
    omega
  · have hq' : ¬ hk b = hk a := fun h => hq h.symm
    simp [hq] at h
    simp [hq']
    exact lt_asymm h
/-- Not behind: transitive. -/
theorem le_trans' {a b c : Od} (h1 : lessO b a = false) (h2 : lessO c b = false) : lessO c a = false := by
  unfold lessO at *
  by_cases hab : hk a = hk b
  · by_cases hbc : hk b = hk c
    · simp [hab, hbc] at h1 h2 ⊢
      omega
    · have hcb : ¬ hk c = hk b := fun h => hbc h.symm
      simp [hcb] at h2
      simp [hab, hcb]
      exact h2
  · have hba : ¬ hk b = hk a := fun h => hab h.symm
    simp [hba] at h1
    by_cases hbc : hk b = hk c
    · have hca : ¬ hk c = hk a := by rw [← hbc]; exact hba
      simp [hca]
      rw [← hbc]
      exact h1
    · have hcb : ¬ hk c = hk b := fun h => hbc h.symm
      simp [hcb] at h2
      have hlt : ltB (hk a) (hk b) = true := by
        cases h : ltB (hk a) (hk b) with
        | true => rfl
        | false => exact absurd (lt_one h h1) hab
      have hlt2 : ltB (hk a) (hk c) = true := lt_le hlt h2
      have hca : ¬ hk c = hk a := fun h => lt_ne hlt2 h.symm
      simp [hca]
      exact lt_asymm hlt2
theorem less_self (a : Od) : lessO a a = false := by simp [lessO]

/-- Two of them change places. -/
def swapL (H : List Od) (i j : Nat) : List Od := match H[i]?, H[j]? with
  | some a, some b => (H.set i b).set j a
  | _, _ => H
theorem swap_len (H : List Od) (i j : Nat) : (swapL H i j).length = H.length := by
  unfold swapL
  split <;> simp
theorem swap_at {H : List Od} {i j : Nat} (hi : i < H.length) (hj : j < H.length) (k : Nat) : (swapL H i j)[k]? = if k = j then H[i]? else if k = i then H[j]? else H[k]? := by
  obtain ⟨a, ha⟩ : ∃ a, H[i]? = some a := ⟨_, List.getElem?_eq_getElem hi⟩
  obtain ⟨b, hb⟩ : ∃ b, H[j]? = some b := ⟨_, List.getElem?_eq_getElem hj⟩
  unfold swapL
  simp only [ha, hb]
  rw [List.getElem?_set]
  by_cases h1 : j = k
  · subst h1
    rw [if_pos rfl, if_pos rfl, if_pos (by simpa using hj)]
  · rw [if_neg h1, if_neg (fun h => h1 h.symm), List.getElem?_set]
    by_cases h2 : i = k
    · subst h2
      rw [if_pos rfl, if_pos rfl, if_pos hi]
    · rw [if_neg h2, if_neg (fun h => h2 h.symm)]
theorem swap_perm (H : List Od) (i j : Nat) : (swapL H i j).Perm H := by
  unfold swapL
  split
  · rename_i a b ha hb
    obtain ⟨hi, rfl⟩ := List.getElem?_eq_some_iff.1 ha
    obtain ⟨hj, rfl⟩ := List.getElem?_eq_some_iff.1 hb
    exact List.set_set_perm hi hj
  · exact List.Perm.refl _

/-- A heap below n, of those whose parent is lo or behind it. -/
def HF (H : List Od) (lo n : Nat) : Prop := ∀ j a b, 0 < j → j < n → lo ≤ (j - 1) / 2 → H[(j - 1) / 2]? = some a → H[j]? = some b → lessO b a = false
/-- The same, but for one place and those below it. -/
structure Dn (H : List Od) (lo i n : Nat) : Prop where
  a : ∀ j a b, 0 < j → j < n → lo ≤ (j - 1) / 2 → (j - 1) / 2 ≠ i → H[(j - 1) / 2]? = some a → H[j]? = some b → lessO b a = false
  b : ∀ j a b, 0 < i → 0 < j → j < n → (j - 1) / 2 = i → lo ≤ (i - 1) / 2 → H[(i - 1) / 2]? = some a → H[j]? = some b → lessO b a = false
theorem Dn.begin {H : List Od} {i n : Nat} (h : HF H (i + 1) n) : Dn H i i n :=
  ⟨fun j a b h0 h1 h2 h3 ha hb => h j a b h0 h1 (by omega) ha hb, fun j a b h0 _ _ _ h4 => by omega⟩
/-- Nothing below is ahead of it. -/
theorem Dn.done {H : List Od} {lo i n : Nat} (h : Dn H lo i n) (hc : ∀ j a b, 0 < j → j < n → (j - 1) / 2 = i → H[i]? = some a → H[j]? = some b → lessO b a = false) : HF H lo n := by
  intro j a b h0 h1 h2 ha hb
  by_cases hi : (j - 1) / 2 = i
  · rw [hi] at ha
    exact hc j a b h0 h1 hi ha hb
  · exact h.a j a b h0 h1 h2 hi ha hb
/-- The lesser one of those below goes up. -/
theorem Dn.step {H : List Od} {lo i j n : Nat} (h : Dn H lo i n) (hn : n ≤ H.length) (hlo : lo ≤ i) (hj0 : 0 < j) (hj : j < n) (hp : (j - 1) / 2 = i) {x y : Od} (hx : H[i]? = some x) (hy : H[j]? = some y) (hl : lessO y x = true)
    (hm : ∀ t b, 0 < t → t < n → (t - 1) / 2 = i → H[t]? = some b → lessO b y = false) : Dn (swapL H i j) lo j n := by
  have hil : i < H.length := (List.getElem?_eq_some_iff.1 hx).1
  have hjl : j < H.length := by omega
  have hij : i < j := by omega
  constructor
  · intro t a b h0 h1 h2 h3 ha hb
    rw [swap_at hil hjl] at ha hb
    rw [if_neg h3] at ha
    by_cases htj : t = j
    · subst htj
      rw [if_pos rfl, hx] at hb
      rw [if_pos hp, hy] at ha
      cases ha; cases hb
      exact less_not hl
    · rw [if_neg htj] at hb
      by_cases hpi : (t - 1) / 2 = i
      · rw [if_pos hpi, hy] at ha
        rw [if_neg (by omega)] at hb
        cases ha
        exact hm t b h0 h1 hpi hb
      · rw [if_neg hpi] at ha
        by_cases hti : t = i
        · subst hti
          rw [if_pos rfl, hy] at hb
          cases hb
          exact h.b j a y (by omega) hj0 hj hp h2 ha hy
        · rw [if_neg hti] at hb
          exact h.a t a b h0 h1 h2 hpi ha hb
  · intro t a b h0 ht0 ht1 htp h4 ha hb
    rw [hp] at ha h4
    rw [swap_at hil hjl] at ha hb
    rw [if_neg (by omega), if_pos rfl, hy] at ha
    rw [if_neg (by omega), if_neg (by omega)] at hb
    cases ha
    exact h.a t y b ht0 ht1 (by omega) (by omega) (by rw [htp]; exact hy) hb
/-- The first one is behind none. -/
theorem HF.min {H : List Od} {n : Nat} (h : HF H 0 n) {o : Od} (ho : H[0]? = some o) : ∀ j b, j < n → n ≤ H.length → H[j]? = some b → lessO b o = false := by
  intro j
  induction j using Nat.strongRecOn with
  | _ j ih =>
    intro b hj hn hb
    by_cases h0 : j = 0
    · subst h0
      rw [ho] at hb
      cases hb
      exact less_self _
    · obtain ⟨a, ha⟩ : ∃ a, H[(j - 1) / 2]? = some a := ⟨_, List.getElem?_eq_getElem (by omega)⟩
      exact le_trans' (ih ((j - 1) / 2) (by omega) a (by omega) hn ha) (h j a b (by omega) hj (Nat.zero_le _) ha hb)
/-- A heap, but for one place and those above it. -/
structure Up (H : List Od) (j : Nat) : Prop where
  a : ∀ t a b, 0 < t → t < H.length → t ≠ j → H[(t - 1) / 2]? = some a → H[t]? = some b → lessO b a = false
  b : ∀ t a b, 0 < j → 0 < t → t < H.length → (t - 1) / 2 = j → H[(j - 1) / 2]? = some a → H[t]? = some b → lessO b a = false
theorem Up.begin {H : List Od} (h : HF H 0 H.length) (o : Od) : Up (H ++ [o]) H.length := by
  constructor
  · intro t a b h0 h1 h2 ha hb
    rw [List.length_append, List.length_singleton] at h1
    rw [List.getElem?_append_left (by omega)] at ha hb
    exact h t a b h0 (by omega) (Nat.zero_le _) ha hb
  · intro t a b _ h0 h1 h2
    rw [List.length_append, List.length_singleton] at h1
    omega
theorem Up.top {H : List Od} (h : Up H 0) : HF H 0 H.length := fun t a b h0 h1 _ ha hb => h.a t a b h0 h1 (by omega) ha hb
theorem Up.done {H : List Od} {j : Nat} (h : Up H j) {x y : Od} (hx : H[(j - 1) / 2]? = some x) (hy : H[j]? = some y) (hl : lessO y x = false) : HF H 0 H.length := by
  intro t a b h0 h1 _ ha hb
  by_cases htj : t = j
  · subst htj
    rw [hx] at ha
    rw [hy] at hb
    cases ha; cases hb
    exact hl
  · exact h.a t a b h0 h1 htj ha hb
theorem Up.step {H : List Od} {j : Nat} (h : Up H j) (hj0 : 0 < j) {x y : Od} (hx : H[(j - 1) / 2]? = some x) (hy : H[j]? = some y) (hl : lessO y x = true) : Up (swapL H ((j - 1) / 2) j) ((j - 1) / 2) := by
  have hil : (j - 1) / 2 < H.length := (List.getElem?_eq_some_iff.1 hx).1
  have hjl : j < H.length := (List.getElem?_eq_some_iff.1 hy).1
  have hle := less_not hl
  constructor
  · intro t a b h0 h1 h2 ha hb
    rw [swap_len] at h1
    rw [swap_at hil hjl] at ha hb
    by_cases htj : t = j
    · subst htj
      rw [if_pos rfl, hx] at hb
      rw [if_neg (by omega), if_pos rfl, hy] at ha
      cases ha; cases hb
      exact hle
    · rw [if_neg htj, if_neg h2] at hb
      by_cases hpi : (t - 1) / 2 = (j - 1) / 2
      · rw [hpi, if_neg (by omega), if_pos rfl, hy] at ha
        cases ha
        exact le_trans' hle (h.a t x b h0 h1 htj (by rw [hpi]; exact hx) hb)
      · by_cases hpj : (t - 1) / 2 = j
        · rw [if_pos hpj, hx] at ha
          cases ha
          exact h.b t x b hj0 h0 h1 hpj hx hb
        · rw [if_neg hpj, if_neg hpi] at ha
          exact h.a t a b h0 h1 htj ha hb
  · intro t a b h0 ht0 ht1 htp ha hb
    rw [swap_len] at ht1
    rw [swap_at hil hjl] at ha hb
    rw [if_neg (by omega), if_neg (by omega)] at ha
    have hax := h.a ((j - 1) / 2) a x h0 hil (by omega) ha hx
    by_cases htj : t = j
    · subst htj
      rw [if_pos rfl, hx] at hb
      cases hb
      exact hax
    · rw [if_neg htj, if_neg (by omega)] at hb
      exact le_trans' hax (h.a t x b ht0 ht1 htj (by rw [htp]; exact hx) hb)

/-- What orders have. -/
def hasO (H : List Od) : Nat → En → Prop := fun n x => ∃ o ∈ H, o.n = n ∧ x ∈ o.l
/-- Orders that are none twice, each in order, none without an entry. -/
structure Good (H : List Od) : Prop where
  nd : (H.map (·.n)).Nodup
  srt : ∀ o ∈ H, Sorted o.l
  ne : ∀ o ∈ H, o.l ≠ []
theorem Good.perm {H H' : List Od} (h : Good H) (hp : H'.Perm H) : Good H' :=
  ⟨(hp.map _).nodup_iff.2 h.nd, fun o ho => h.srt o (hp.mem_iff.1 ho), fun o ho => h.ne o (hp.mem_iff.1 ho)⟩
theorem Good.uniq {H : List Od} (h : Good H) : Uniq (hasO H) := by
  rintro n x y ⟨o, ho, hn, hx⟩ ⟨o', ho', hn', hy⟩ hk
  have : o = o' := by
    obtain ⟨i, hi, rfl⟩ := List.getElem_of_mem ho
    obtain ⟨j, hj, rfl⟩ := List.getElem_of_mem ho'
    have hij : i = j := by
      have h1 := h.nd
      rw [List.nodup_iff_pairwise_ne, List.pairwise_iff_getElem] at h1
      rcases Nat.lt_trichotomy i j with hl | he | hl
      · have h2 := h1 i j (by simpa using hi) (by simpa using hj) hl
        rw [List.getElem_map, List.getElem_map, hn, hn'] at h2
        exact absurd rfl h2
      · exact he
      · have h2 := h1 j i (by simpa using hj) (by simpa using hi) hl
        rw [List.getElem_map, List.getElem_map, hn, hn'] at h2
        exact absurd rfl h2
    subst hij
    rfl
  subst this
  exact sorted_key (h.srt o ho) hx hy hk
theorem has_perm {H H' : List Od} (hp : H'.Perm H) : hasO H' = hasO H := by
  funext n x
  apply propext
  constructor
  · rintro ⟨o, ho, h⟩
    exact ⟨o, hp.mem_iff.1 ho, h⟩
  · rintro ⟨o, ho, h⟩
    exact ⟨o, hp.mem_iff.2 ho, h⟩
/-- How many entries are left. -/
def leftO (H : List Od) : Nat := (H.map (fun o => o.l.length)).sum
theorem left_perm {H H' : List Od} (hp : H'.Perm H) : leftO H' = leftO H := (hp.map _).sum_nat

/-- Behind the first entry of the first order taken off. -/
theorem took_has {H K : List Od} {o o' : Od} {x : En} {r : List En} (hg : Good (o :: H)) (hl : o.l = x :: r) (hn : o'.n = o.n) (hr : o'.l = r) (hK : K.Perm (if r = [] then H else o' :: H)) :
    hasO K = less1 (hasO (o :: H)) o.n x ∧ Good K ∧ leftO K + 1 = leftO (o :: H) := by
  have hnd := hg.nd
  rw [List.map_cons, List.nodup_cons] at hnd
  have hso := hg.srt o (by simp)
  rw [hl] at hso
  refine ⟨?_, ?_, ?_⟩
  · rw [has_perm hK]
    funext m y
    apply propext
    unfold less1
    constructor
    · intro hh
      have : (m = o.n ∧ y ∈ r) ∨ hasO H m y := by
        split at hh
        · exact .inr hh
        · obtain ⟨q, hq, h1, h2⟩ := hh
          rcases List.mem_cons.1 hq with rfl | hq
          · exact .inl ⟨by omega, by rw [← hr]; exact h2⟩
          · exact .inr ⟨q, hq, h1, h2⟩
      rcases this with ⟨h1, h2⟩ | ⟨q, hq, h1, h2⟩
      · refine ⟨⟨o, by simp, h1.symm, by rw [hl]; simp [h2]⟩, fun h => ?_⟩
        have := sorted_head hso y h2
        rw [h.2, lt_self] at this
        cases this
      · refine ⟨⟨q, by simp [hq], h1, h2⟩, fun h => ?_⟩
        exact hnd.1 (List.mem_map.2 ⟨q, hq, by rw [h1, h.1]⟩)
    · rintro ⟨⟨q, hq, h1, h2⟩, h3⟩
      rcases List.mem_cons.1 hq with rfl | hq
      · have hyr : y ∈ r := by
          rw [hl] at h2
          rcases List.mem_cons.1 h2 with rfl | h
          · exact absurd ⟨h1.symm, rfl⟩ h3
          · exact h
        rw [if_neg (fun h => by rw [h] at hyr; cases hyr)]
        exact ⟨o', by simp, by omega, by rw [hr]; exact hyr⟩
      · split
        · exact ⟨q, hq, h1, h2⟩
        · exact ⟨q, by simp [hq], h1, h2⟩
  · refine Good.perm ?_ hK
    split
    · exact ⟨hnd.2, fun q hq => hg.srt q (by simp [hq]), fun q hq => hg.ne q (by simp [hq])⟩
    · rename_i hr0
      refine ⟨by rw [List.map_cons, hn, List.nodup_cons]; exact hnd, fun q hq => ?_, fun q hq => ?_⟩
      · rcases List.mem_cons.1 hq with rfl | hq
        · rw [hr]; exact sorted_tail hso
        · exact hg.srt q (by simp [hq])
      · rcases List.mem_cons.1 hq with rfl | hq
        · rw [hr]; exact hr0
        · exact hg.ne q (by simp [hq])
  · rw [left_perm hK]
    unfold leftO
    split
    · rename_i hr0
      simp [hl, hr0]
      omega
    · simp [hl, hr]
      omega
/-- The first order's first entry is behind none. -/
theorem first_min {H : List Od} {o : Od} {x : En} {r : List En} (hg : Good H) (ho : o ∈ H) (hl : o.l = x :: r) (hm : ∀ b ∈ H, lessO b o = false) :
    hasO H o.n x ∧ ∀ n' y, hasO H n' y → ltB y.k x.k = false ∧ (y.k = x.k → o.n ≤ n') := by
  refine ⟨⟨o, ho, rfl, by rw [hl]; simp⟩, ?_⟩
  rintro n' y ⟨b, hb, rfl, hy⟩
  have h1 := hm b hb
  have hs := hg.srt b hb
  cases hbl : b.l with
  | nil => rw [hbl] at hy; cases hy
  | cons z t =>
    rw [hbl] at hy hs
    have hkb : hk b = z.k := by unfold hk; rw [hbl]
    have hko : hk o = x.k := by unfold hk; rw [hl]
    unfold lessO at h1
    rw [hkb, hko] at h1
    have hzy : y = z ∨ ltB z.k y.k = true := by
      rcases List.mem_cons.1 hy with rfl | hy
      · exact .inl rfl
      · exact .inr (sorted_head hs y hy)
    by_cases hzx : z.k = x.k
    · rw [if_pos (by simp [hzx])] at h1
      have h1' : ¬ b.n < o.n := by simpa using h1
      rcases hzy with rfl | h2
      · exact ⟨by rw [hzx, lt_self], fun _ => by omega⟩
      · rw [hzx] at h2
        exact ⟨lt_asymm h2, fun h => by rw [h, lt_self] at h2; cases h2⟩
    · rw [if_neg (by simp [hzx])] at h1
      have hxz : ltB x.k z.k = true := by
        cases h : ltB x.k z.k with
        | true => rfl
        | false => exact absurd (lt_one h1 h) hzx
      have hxy : ltB x.k y.k = true := by
        rcases hzy with rfl | h2
        · exact hxz
        · exact lt_trans hxz h2
      exact ⟨lt_asymm hxy, fun h => by rw [h, lt_self] at hxy; cases hxy⟩
end Go.Proofs.Ytdfhjmodacjilaa.Mg
