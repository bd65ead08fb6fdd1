/-
  merge's laws, plain: entries put one behind the other, each order and all of them; as many keys.
-/
import Derived.Test.YtdfhjmodacjilaaMgQp
namespace Go.Proofs.Ytdfhjmodacjilaa.Mg
open Me
set_option maxRecDepth 100000
set_option linter.unusedVariables false

/-- Each order's entries, put one behind the other. -/
def riseN (Ls : List (List En)) : List (List En) := Ls.map (putsF [])
/-- All of them, the newest order first. -/
def seenN (Ls : List (List En)) : List En := Ls.foldl putsF []
theorem seenN_sorted : ∀ (Ls : List (List En)) (M : List En), Sorted M → Sorted (Ls.foldl putsF M)
  | [], M, h => h
  | l :: r, M, h => seenN_sorted r (putsF M l) (putsF_sorted l h)
theorem rise_sorted (Ls : List (List En)) : ∀ L ∈ riseN Ls, Sorted L := by
  intro L hL
  obtain ⟨l, _, rfl⟩ := List.mem_map.1 hL
  exact putsF_sorted l sorted_nil
/-- What keys entries have that were put. -/
theorem keys_puts : ∀ (l : List En) (M : List En), Sorted M → ∀ k, (∃ e ∈ putsF M l, e.k = k) ↔ (∃ e ∈ M, e.k = k) ∨ ∃ e ∈ l, e.k = k
  | [], M, _, k => by simp [putsF]
  | a :: r, M, h, k => by
    have ih := keys_puts r (putL M a) (sorted_put h a) k
    show (∃ e ∈ putsF (putL M a) r, e.k = k) ↔ _
    rw [ih]
    constructor
    · rintro (⟨e, he, rfl⟩ | ⟨e, he, rfl⟩)
      · rcases (mem_put h a e).1 he with rfl | ⟨h1, _⟩
        · exact .inr ⟨a, by simp, (norm_k a).symm⟩
        · exact .inl ⟨e, h1, rfl⟩
      · exact .inr ⟨e, by simp [he], rfl⟩
    · rintro (⟨e, he, rfl⟩ | ⟨e, he, rfl⟩)
      · by_cases hk : e.k = a.k
        · exact .inl ⟨norm a, (mem_put h a _).2 (.inl rfl), by rw [norm_k, hk]⟩
        · exact .inl ⟨e, (mem_put h a _).2 (.inr ⟨he, hk⟩), rfl⟩
      · rcases List.mem_cons.1 he with rfl | he
        · exact .inl ⟨norm e, (mem_put h e _).2 (.inl rfl), norm_k e⟩
        · exact .inr ⟨e, he, rfl⟩
theorem keys_seen : ∀ (Ls : List (List En)) (M : List En), Sorted M → ∀ k, (∃ e ∈ Ls.foldl putsF M, e.k = k) ↔ (∃ e ∈ M, e.k = k) ∨ ∃ l ∈ Ls, ∃ e ∈ l, e.k = k
  | [], M, _, k => by simp
  | l :: r, M, h, k => by
    have ih := keys_seen r (putsF M l) (putsF_sorted l h) k
    rw [List.foldl_cons, ih, keys_puts l M h]
    constructor
    · rintro ((h1 | h1) | ⟨q, hq, h1⟩)
      · exact .inl h1
      · exact .inr ⟨l, by simp, h1⟩
      · exact .inr ⟨q, by simp [hq], h1⟩
    · rintro (h1 | ⟨q, hq, h1⟩)
      · exact .inl (.inl h1)
      · rcases List.mem_cons.1 hq with rfl | hq
        · exact .inl (.inr h1)
        · exact .inr ⟨q, hq, h1⟩
theorem keys_all : ∀ (Ls : List (List En)) (k : List UInt8), (∃ e ∈ allN Ls, e.k = k) ↔ ∃ l ∈ Ls, ∃ e ∈ l, e.k = k
  | [], k => by simp [allN]
  | l :: r, k => by
    show (∃ e ∈ putsF (allN r) l, e.k = k) ↔ _
    rw [keys_puts l _ (allN_sorted r), keys_all r]
    constructor
    · rintro (⟨q, hq, h1⟩ | h1)
      · exact ⟨q, by simp [hq], h1⟩
      · exact ⟨l, by simp, h1⟩
    · rintro ⟨q, hq, h1⟩
      rcases List.mem_cons.1 hq with rfl | hq
      · exact .inr h1
      · exact .inl ⟨q, hq, h1⟩
theorem keys_rise (Ls : List (List En)) (k : List UInt8) : (∃ l ∈ riseN Ls, ∃ e ∈ l, e.k = k) ↔ ∃ l ∈ Ls, ∃ e ∈ l, e.k = k := by
  constructor
  · rintro ⟨q, hq, h1⟩
    obtain ⟨l, hl, rfl⟩ := List.mem_map.1 hq
    rcases (keys_puts l [] sorted_nil k).1 h1 with ⟨e, he, _⟩ | h1
    · cases he
    · exact ⟨l, hl, h1⟩
  · rintro ⟨l, hl, h1⟩
    exact ⟨putsF [] l, List.mem_map_of_mem hl, (keys_puts l [] sorted_nil k).2 (.inr h1)⟩
theorem keys_len {A B : List En} (hA : Sorted A) (hB : Sorted B) (h : ∀ k, (∃ e ∈ A, e.k = k) ↔ ∃ e ∈ B, e.k = k) : A.length = B.length := by
  have key : A.map (fun e => (⟨e.k, [], false⟩ : En)) = B.map (fun e => (⟨e.k, [], false⟩ : En)) := by
    refine sorted_ext ?_ ?_ (fun e => ?_)
    · exact List.pairwise_map.2 hA
    · exact List.pairwise_map.2 hB
    · constructor
      · intro he
        obtain ⟨a, ha, rfl⟩ := List.mem_map.1 he
        obtain ⟨b, hb, hk⟩ := (h a.k).1 ⟨a, ha, rfl⟩
        exact List.mem_map.2 ⟨b, hb, by rw [hk]⟩
      · intro he
        obtain ⟨b, hb, rfl⟩ := List.mem_map.1 he
        obtain ⟨a, ha, hk⟩ := (h b.k).2 ⟨b, hb, rfl⟩
        exact List.mem_map.2 ⟨a, ha, by rw [hk]⟩
  have := congrArg List.length key
  simpa using this
theorem newest_len (Ls : List (List En)) : (allN (riseN Ls)).length = (seenN Ls).length :=
  keys_len (allN_sorted _) (seenN_sorted Ls [] sorted_nil) (fun k => by
    rw [keys_all, keys_rise]
    unfold seenN
    rw [keys_seen Ls [] sorted_nil k]
    simp)
/-- What is put is as it is laid. -/
theorem puts_norm : ∀ (l M : List En), Sorted M → (∀ e ∈ M, norm e = e) → ∀ e ∈ putsF M l, norm e = e
  | [], M, _, h, e, he => h e he
  | a :: r, M, hs, h, e, he => puts_norm r (putL M a) (sorted_put hs a) (fun x hx => by
      rcases (mem_put hs a x).1 hx with rfl | ⟨h1, _⟩
      · exact norm_norm a
      · exact h x h1) e he
/-- Each entry that comes stands in the first order that has its key. -/
theorem newest_at (Ls : List (List En)) : ∀ e ∈ allN (riseN Ls), ∃ (n : Nat) (R : List En), (riseN Ls)[n]? = some R ∧ getL R e.k = some e ∧ ∀ (i : Nat) (Q : List En), i < n → (riseN Ls)[i]? = some Q → getL Q e.k = none := by
  intro e he
  obtain ⟨n, x, ⟨i, R, h1, h2, h3⟩, h4, h5⟩ := (allN_tells (riseN Ls) 0 (rise_sorted Ls)).frm e he
  have hi : n = i := by omega
  subst hi
  have hs := rise_sorted Ls R (List.mem_of_getElem? h1)
  have hx : norm x = x := by
    obtain ⟨l, _, rfl⟩ := List.mem_map.1 (List.mem_of_getElem? h1)
    exact puts_norm l [] sorted_nil (fun e he => by cases he) x h3
  have hxe : x = e := by rw [← h4, hx]
  subst hxe
  refine ⟨n, R, h1, (getL_mem hs x).1 h3, fun j Q hj hQ => ?_⟩
  cases hg : getL Q x.k with
  | none => rfl
  | some y =>
    exfalso
    have hy : y.k = x.k := by
      have := List.find?_some hg
      simpa using this
    have := h5 j y ⟨j, Q, hQ, by omega, List.mem_of_find?_eq_some hg⟩ hy
    omega
theorem rise_len (l : List En) : (putsF [] l).length ≤ l.length := by
  have := putsF_len l []
  simpa using this
theorem rise_sum : ∀ Ls : List (List En), sumL (riseN Ls) ≤ sumL Ls
  | [] => Nat.le_refl _
  | l :: r => by
    have h1 := rise_len l
    have h2 := rise_sum r
    simp only [riseN, sumL, List.map_cons, List.sum_cons] at h2 ⊢
    omega
theorem seen_len : ∀ (Ls : List (List En)) (M : List En), (Ls.foldl putsF M).length ≤ M.length + sumL Ls
  | [], M => Nat.le_refl _
  | l :: r, M => by
    have h1 := putsF_len l M
    have h2 := seen_len r (putsF M l)
    rw [List.foldl_cons]
    simp only [sumL, List.map_cons, List.sum_cons] at h2 ⊢
    omega
end Go.Proofs.Ytdfhjmodacjilaa.Mg
