/-
  horner: texts that differ only within three bytes that follow one another have unlike sums, as plain lists.
-/
import Derived.Test.YtkbkjpeghbiadaaDoorHnE
namespace Go.Proofs.YtkbkjpeghbiadaaDoor.Hn
open Go.RowKit
set_option maxRecDepth 100000

/-- The first k of the three bytes from i on are other ones. -/
def nearB (b : List UInt8) (i : Nat) (y : Nat → UInt8) (k : Nat) : List UInt8 := b.mapIdx fun j c => if i ≤ j ∧ j < i + k then c ^^^ y (j - i) else c
theorem length_nearB (b : List UInt8) (i : Nat) (y : Nat → UInt8) (k : Nat) : (nearB b i y k).length = b.length := by simp [nearB]
theorem nearB_get (b : List UInt8) (i : Nat) (y : Nat → UInt8) (k j : Nat) : (nearB b i y k)[j]? = (b[j]?).map fun c => if i ≤ j ∧ j < i + k then c ^^^ y (j - i) else c := by
  unfold nearB
  rw [List.getElem?_mapIdx]
theorem nearB_zero (b : List UInt8) (i : Nat) (y : Nat → UInt8) : nearB b i y 0 = b := by
  apply List.ext_getElem?
  intro j
  rw [nearB_get]
  cases b[j]? with
  | none => rfl
  | some c => simp; omega
theorem nearB_at (b : List UInt8) (i : Nat) (y : Nat → UInt8) (k : Nat) : (nearB b i y k)[i + k]? = b[i + k]? := by
  rw [nearB_get]
  cases b[i + k]? with
  | none => rfl
  | some c => simp
theorem nearB_succ (b : List UInt8) (i : Nat) (y : Nat → UInt8) (k : Nat) (c : UInt8) (hc : b[i + k]? = some c) : nearB b i y (k + 1) = (nearB b i y k).set (i + k) (c ^^^ y k) := by
  apply List.ext_getElem?
  intro j
  rw [nearB_get, List.getElem?_set, nearB_get]
  by_cases h : i + k = j
  · subst h
    have hl : i + k < b.length := (List.getElem?_eq_some_iff.1 hc).1
    rw [if_pos rfl, if_pos (by rw [length_nearB]; exact hl), hc]
    simp
  · rw [if_neg h]
    cases b[j]? with
    | none => rfl
    | some d =>
      simp only [Option.map_some]
      by_cases h1 : i ≤ j ∧ j < i + k
      · rw [if_pos h1, if_pos (by omega)]
      · rw [if_neg h1, if_neg (by omega)]

/-- Whether one of the first k is another one. -/
def othB (y : Nat → UInt8) : Nat → Bool
  | 0 => false
  | k + 1 => othB y k || (y k != 0)

theorem xor_same {c d : UInt8} (h : (c ^^^ d).toNat = c.toNat) : d = 0 := by
  have h1 : c ^^^ d = c := UInt8.toNat_inj.1 h
  have h2 : c ^^^ (c ^^^ d) = c ^^^ c := by rw [h1]
  rw [← UInt8.xor_assoc, UInt8.xor_self, UInt8.zero_xor] at h2
  exact h2

theorem fold_inj (l : List UInt8) : ∀ n m : Nat, n < 2147483647 → m < 2147483647 → l.foldl (fun n c => (n * 257 + c.toNat) % 2147483647) n = l.foldl (fun n c => (n * 257 + c.toNat) % 2147483647) m → n = m := by
  induction l with
  | nil => exact fun n m _ _ h => h
  | cons c r ih =>
    intro n m hn hm h
    simp only [List.foldl_cons] at h
    have h1 := ih _ _ (Nat.mod_lt _ (by decide)) (Nat.mod_lt _ (by decide)) h
    clear ih h
    omega

theorem near_one (N a c : Nat) (ha : a < 256) (hc : c < 256) (h : (N * 257 + a) % 2147483647 = (N * 257 + c) % 2147483647) : a = c := by omega
theorem near_cancel (X p q : Nat) (hp : p < 2147483647) (hq : q < 2147483647) (h : (X + p) % 2147483647 = (X + q) % 2147483647) : p = q := by omega
theorem ring3 (X a b : Nat) : (X * 257 + a) * 257 + b = X * 66049 + (a * 257 + b) := by omega
theorem ring4 (N a p : Nat) : (N * 257 + a) * 66049 + p = N * 16974593 + (a * 66049 + p) := by omega
theorem near_two (N a0 a1 c0 c1 : Nat) (h0 : a0 < 256) (h1 : a1 < 256) (k0 : c0 < 256) (k1 : c1 < 256) (h : ((N * 257 + a0) % 2147483647 * 257 + a1) % 2147483647 = ((N * 257 + c0) % 2147483647 * 257 + c1) % 2147483647) : a0 = c0 ∧ a1 = c1 := by
  rw [mm, mm] at h
  have e3 : (N * 257 + a0) * 257 + a1 = N * 66049 + (a0 * 257 + a1) := by omega
  have e4 : (N * 257 + c0) * 257 + c1 = N * 66049 + (c0 * 257 + c1) := by omega
  rw [e3, e4] at h
  have := near_cancel _ _ _ (by omega) (by omega) h
  clear h e3 e4
  omega
theorem near_three (N a0 a1 a2 c0 c1 c2 : Nat) (h0 : a0 < 256) (h1 : a1 < 256) (h2 : a2 < 256) (k0 : c0 < 256) (k1 : c1 < 256) (k2 : c2 < 256)
    (h : (((N * 257 + a0) % 2147483647 * 257 + a1) % 2147483647 * 257 + a2) % 2147483647 = (((N * 257 + c0) % 2147483647 * 257 + c1) % 2147483647 * 257 + c2) % 2147483647) : a0 = c0 ∧ a1 = c1 ∧ a2 = c2 := by
  rw [mm, mm, ring3, ring3, mm, mm, ring4, ring4] at h
  have := near_cancel _ _ _ (by omega) (by omega) h
  clear h
  omega

theorem nearB_app (p r : List UInt8) (y : Nat → UInt8) (k : Nat) : nearB (p ++ r) p.length y k = p ++ nearB r 0 y k := by
  apply List.ext_getElem?
  intro j
  rw [nearB_get]
  by_cases h : j < p.length
  · rw [List.getElem?_append_left h, List.getElem?_append_left h]
    rw [List.getElem?_eq_getElem h]
    simp
    omega
  · rw [List.getElem?_append_right (by omega), List.getElem?_append_right (by omega), nearB_get]
    cases r[j - p.length]? with
    | none => rfl
    | some c =>
      simp only [Option.map_some]
      by_cases h1 : j < p.length + k
      · rw [if_pos ⟨by omega, h1⟩, if_pos ⟨by omega, by omega⟩]
        congr 3
      · rw [if_neg (by omega), if_neg (by omega)]

theorem rest_one (c : UInt8) (r : List UInt8) (y : Nat → UInt8) : nearB (c :: r) 0 y 1 = (c ^^^ y 0) :: r := by
  apply List.ext_getElem?
  intro j
  rw [nearB_get]
  cases j with
  | zero => simp
  | succ j =>
    simp only [List.getElem?_cons_succ]
    cases r[j]? with
    | none => rfl
    | some d => simp
theorem rest_two (c d : UInt8) (r : List UInt8) (y : Nat → UInt8) : nearB (c :: d :: r) 0 y 2 = (c ^^^ y 0) :: (d ^^^ y 1) :: r := by
  apply List.ext_getElem?
  intro j
  rw [nearB_get]
  match j with
  | 0 => simp
  | 1 => simp
  | j + 2 =>
    simp only [List.getElem?_cons_succ]
    cases r[j]? with
    | none => rfl
    | some d => simp; omega
theorem rest_three (c d e : UInt8) (r : List UInt8) (y : Nat → UInt8) : nearB (c :: d :: e :: r) 0 y 3 = (c ^^^ y 0) :: (d ^^^ y 1) :: (e ^^^ y 2) :: r := by
  apply List.ext_getElem?
  intro j
  rw [nearB_get]
  match j with
  | 0 => simp
  | 1 => simp
  | 2 => simp
  | j + 3 =>
    simp only [List.getElem?_cons_succ]
    cases r[j]? with
    | none => rfl
    | some d => simp; omega

theorem oth_one {y : Nat → UInt8} : othB y 1 = (y 0 != 0) := by simp [othB]
theorem oth_two {y : Nat → UInt8} : othB y 2 = (y 0 != 0 || y 1 != 0) := by simp [othB]
theorem oth_three {y : Nat → UInt8} : othB y 3 = (y 0 != 0 || y 1 != 0 || y 2 != 0) := by simp [othB]

/-- Where none is another one. -/
theorem near_none {y : Nat → UInt8} : ∀ {k : Nat}, othB y k = false → ∀ j, j < k → y j = 0
  | 0, _, j, hj => by omega
  | k + 1, h, j, hj => by
    simp only [othB, Bool.or_eq_false_iff] at h
    by_cases e : j = k
    · subst e
      simpa using h.2
    · exact near_none h.1 j (by omega)
theorem near_same {b : List UInt8} {i k : Nat} {y : Nat → UInt8} (h : othB y k = false) : nearB b i y k = b := by
  apply List.ext_getElem?
  intro j
  rw [nearB_get]
  cases b[j]? with
  | none => rfl
  | some c =>
    simp only [Option.map_some]
    by_cases h1 : i ≤ j ∧ j < i + k
    · rw [if_pos h1, near_none h _ (by omega), UInt8.xor_zero]
    · rw [if_neg h1]

/-- Unlike texts have unlike sums. -/
theorem near_unlike {b : List UInt8} {i m : Nat} {y : Nat → UInt8} (s : Nat) (hm : 0 < m) (hm3 : m ≤ 3) (hi : i + m ≤ b.length) (h : othB y m = true) : moreN s (nearB b i y m) ≠ moreN s b := by
  intro he
  obtain ⟨p, r, rfl, rfl⟩ : ∃ p r, b = p ++ r ∧ i = p.length := ⟨b.take i, b.drop i, (List.take_append_drop i b).symm, by rw [List.length_take]; omega⟩
  rw [nearB_app, moreN_app, moreN_app, moreN_small (moreN_lt s p), moreN_small (moreN_lt s p)] at he
  rw [List.length_append] at hi
  have hN := moreN_lt s p
  generalize moreN s p = N at he hN
  have lt := fun c : UInt8 => c.toNat_lt
  have hr : m ≤ r.length := by omega
  clear hi
  rcases (by omega : m = 1 ∨ m = 2 ∨ m = 3) with rfl | rfl | rfl
  · obtain ⟨c, r, rfl⟩ : ∃ c r', r = c :: r' := by
      cases r with
      | nil => simp at hr
      | cons c r => exact ⟨c, r, rfl⟩
    rw [rest_one] at he
    have := fold_inj r _ _ (Nat.mod_lt _ (by decide)) (Nat.mod_lt _ (by decide)) he
    have := xor_same (near_one N _ _ (lt _) (lt _) this)
    rw [oth_one, this] at h
    exact absurd h (by decide)
  · obtain ⟨c, d, r, rfl⟩ : ∃ c d r', r = c :: d :: r' := by
      match r, hr with
      | c :: d :: r, _ => exact ⟨c, d, r, rfl⟩
    rw [rest_two] at he
    have := fold_inj r _ _ (Nat.mod_lt _ (by decide)) (Nat.mod_lt _ (by decide)) he
    obtain ⟨e0, e1⟩ := near_two N _ _ _ _ (lt _) (lt _) (lt _) (lt _) this
    rw [oth_two, xor_same e0, xor_same e1] at h
    exact absurd h (by decide)
  · obtain ⟨c, d, e, r, rfl⟩ : ∃ c d e r', r = c :: d :: e :: r' := by
      match r, hr with
      | c :: d :: e :: r, _ => exact ⟨c, d, e, r, rfl⟩
    rw [rest_three] at he
    have := fold_inj r _ _ (Nat.mod_lt _ (by decide)) (Nat.mod_lt _ (by decide)) he
    obtain ⟨e0, e1, e2⟩ := near_three N _ _ _ _ _ _ (lt _) (lt _) (lt _) (lt _) (lt _) (lt _) this
    rw [oth_three, xor_same e0, xor_same e1, xor_same e2] at h
    exact absurd h (by decide)

theorem ofNat_inj {a b : Nat} (ha : a < 256) (hb : b < 256) (h : UInt8.ofNat a = UInt8.ofNat b) : a = b := by
  have := congrArg UInt8.toNat h
  simp at this
  omega
theorem tail_inj {s t : Nat} (hs : s < 2147483647) (ht : t < 2147483647) (h : tailB s = tailB t) : s = t := by
  unfold tailB at h
  simp only [List.cons.injEq, and_true] at h
  obtain ⟨h0, h1, h2, h3⟩ := h
  have e0 := ofNat_inj (Nat.mod_lt _ (by decide)) (Nat.mod_lt _ (by decide)) h0
  have e1 := ofNat_inj (Nat.mod_lt _ (by decide)) (Nat.mod_lt _ (by decide)) h1
  have e2 := ofNat_inj (Nat.mod_lt _ (by decide)) (Nat.mod_lt _ (by decide)) h2
  have e3 := ofNat_inj (Nat.mod_lt _ (by decide)) (Nat.mod_lt _ (by decide)) h3
  clear h0 h1 h2 h3
  omega

/-- What Open tells of a text with another one's sum. -/
theorem near_code {b x : List UInt8} (hl : x.length = b.length) (oth : Bool) (h0 : oth = false → x = b) (h1 : oth = true → moreN 1 x ≠ moreN 1 b) : codeB (x ++ tailB (moreN 1 b)) = if oth then 11 else 0 := by
  have hn : (x ++ tailB (moreN 1 b)).length = b.length + 4 := by rw [List.length_append, hl, length_tailB]
  have hd : (x ++ tailB (moreN 1 b)).drop b.length = tailB (moreN 1 b) := by rw [← hl]; simp
  have ht : (x ++ tailB (moreN 1 b)).take b.length = x := by rw [← hl]; simp
  unfold codeB
  rw [open_form hn, hd, ht]
  cases oth with
  | false => rw [h0 rfl, if_pos rfl]; rfl
  | true =>
    rw [if_neg (fun h => h1 rfl (tail_inj (moreN_lt _ _) (moreN_lt _ _) h).symm)]
    rfl

end Go.Proofs.YtkbkjpeghbiadaaDoor.Hn
