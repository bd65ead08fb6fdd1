/-
  mem: where a key stands.
-/
import Derived.Test.YtdfhjmodacjilaaMeB
namespace Go.Proofs.Ytdfhjmodacjilaa.Me
open Go.RowKit Go.Maps
set_option maxRecDepth 100000
set_option linter.unusedVariables false

/-- All that stand ahead of lo are ahead of the key, none that stand from hi on. -/
structure Between (L : List En) (k : List UInt8) (lo hi : Nat) : Prop where
  le : lo ≤ hi
  len : hi ≤ L.length
  l : ∀ t, t < lo → ∀ e, L[t]? = some e → ltB e.k k = true
  h : ∀ t, hi ≤ t → ∀ e, L[t]? = some e → ltB e.k k = false
theorem Between.start (L : List En) (k : List UInt8) : Between L k 0 L.length :=
  ⟨Nat.zero_le _, Nat.le_refl _, fun t ht => by omega, fun t ht e he => by have := (List.getElem?_eq_some_iff.1 he).1; omega⟩
theorem Between.up {L : List En} (hs : Sorted L) {k : List UInt8} {lo hi m : Nat} (b : Between L k lo hi) (h1 : lo ≤ m) (h2 : m < hi) {e : En} (he : L[m]? = some e) (hl : ltB e.k k = true) : Between L k (m + 1) hi :=
  ⟨h2, b.len, fun t ht x hx => by
    by_cases h : t = m
    · subst h
      rw [he] at hx
      cases hx
      exact hl
    · exact lt_trans (sorted_at hs (show t < m by omega) hx he) hl, b.h⟩
theorem Between.down {L : List En} (hs : Sorted L) {k : List UInt8} {lo hi m : Nat} (b : Between L k lo hi) (h1 : lo ≤ m) (h2 : m < hi) {e : En} (he : L[m]? = some e) (hl : ltB e.k k = false) : Between L k lo m :=
  ⟨h1, by have := b.len; omega, b.l, fun t ht x hx => by
    by_cases h : t = m
    · subst h
      rw [he] at hx
      cases hx
      exact hl
    · cases h3 : ltB x.k k with
      | false => rfl
      | true => rw [lt_trans (sorted_at hs (show m < t by omega) he hx) h3] at hl; cases hl⟩
theorem Between.end {L : List En} {k : List UInt8} {i : Nat} (b : Between L k i i) : posN L k = i :=
  posN_is k L i b.len b.l (fun e he => b.h i (Nat.le_refl _) e he)

end Go.Proofs.Ytdfhjmodacjilaa.Me
