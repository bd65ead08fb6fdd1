/-
  delta, in plain lists: what is encoded is decoded, and the other way round.
-/
import Derived.Test.YtnlknnhibnfhcaaDoorDeL
namespace Go.Proofs.YtnlknnhibnfhcaaDoor.De
open Go.RowKit Pk

theorem tru_bool (b : Bool) (r : List UInt8) : truB (boolB b ++ r) = .ok (b, r) := by cases b <;> rfl
theorem text_bytes64 (b r : List UInt8) (hb : b.length ≤ 64) : textB 64 (bytesB b ++ r) = .ok (b, r) := by
  unfold bytesB
  rw [List.append_assoc]
  have hn : numB M64 (spellB b.length ++ (b ++ r)) = .ok (b.length, b ++ r) := num_spell (by omega) (by unfold M64; omega) _
  rw [textB_ok (by decide) hn (by omega) (by rw [List.length_append]; omega)]
  rw [List.take_left' rfl, List.drop_left' rfl]

/-- What bytes can tell. -/
def Codable (q : Pt) : Prop := (q.cp = true ∧ 0 ≤ q.f ∧ q.f ≤ 64 ∧ 0 ≤ q.n ∧ q.n ≤ 64 ∧ q.b = []) ∨ (q.cp = false ∧ q.f = 0 ∧ q.n = 0 ∧ q.b.length ≤ 64)
theorem take_back {q : Pt} (h : Codable q) (r : List UInt8) : takeP ⟨ptB q ++ r, 0⟩ = (q, ⟨r, 0⟩) := by
  obtain ⟨cp, f, n, b⟩ := q
  rcases h with ⟨h1, h2, h3, h4, h5, h6⟩ | ⟨h1, h2, h3, h4⟩
  · dsimp only at h1 h2 h3 h4 h5 h6
    subst h1 h6
    obtain ⟨f', rfl⟩ : ∃ f' : Nat, f = (f' : Int) := ⟨f.toNat, by omega⟩
    obtain ⟨n', rfl⟩ : ∃ n' : Nat, n = (n' : Int) := ⟨n.toNat, by omega⟩
    have e1 : takeB truB false ⟨ptB ⟨true, (f' : Int), (n' : Int), []⟩ ++ r, 0⟩ = (true, ⟨spellB f' ++ (spellB n' ++ r), 0⟩) := by
      refine takeB_ok rfl ?_
      show truB (ptB ⟨true, (f' : Int), (n' : Int), []⟩ ++ r) = _
      unfold ptB
      rw [if_pos rfl, u64N_nat (by omega), u64N_nat (by omega), List.append_assoc, List.append_assoc]
      exact tru_bool true _
    have e2 : takeB (numB 64) 0 ⟨spellB f' ++ (spellB n' ++ r), 0⟩ = (f', ⟨spellB n' ++ r, 0⟩) := takeB_ok rfl (num_spell (by omega) (by omega) _)
    have e3 : takeB (numB 64) 0 ⟨spellB n' ++ r, 0⟩ = (n', ⟨r, 0⟩) := takeB_ok rfl (num_spell (by omega) (by omega) _)
    unfold takeP
    rw [e1]
    dsimp only
    rw [if_pos rfl, e2]
    dsimp only
    rw [e3]
  · dsimp only at h1 h2 h3 h4
    subst h1 h2 h3
    have e1 : takeB truB false ⟨ptB ⟨false, 0, 0, b⟩ ++ r, 0⟩ = (false, ⟨bytesB b ++ r, 0⟩) := by
      refine takeB_ok rfl ?_
      show truB (ptB ⟨false, 0, 0, b⟩ ++ r) = _
      unfold ptB
      rw [if_neg (by simp), List.append_assoc]
      exact tru_bool false _
    have e2 : takeB (textB 64) [] ⟨bytesB b ++ r, 0⟩ = (b, ⟨r, 0⟩) := takeB_ok rfl (text_bytes64 b r h4)
    unfold takeP
    rw [e1]
    dsimp only
    rw [if_neg (by decide), e2]
    rfl
theorem takes_back (L : List Pt) (hg : ∀ q ∈ L, Codable q) : ∀ k, k ≤ L.length → takesN ⟨L.flatMap ptB, 0⟩ k = (L.take k, ⟨(L.drop k).flatMap ptB, 0⟩)
  | 0, _ => by simp [takesN]
  | k + 1, h => by
    obtain ⟨q, hq⟩ : ∃ q, L[k]? = some q := ⟨_, List.getElem?_eq_getElem (by omega)⟩
    unfold takesN
    rw [takes_back L hg k (by omega), drop_at hq, List.flatMap_cons, take_back (hg q (List.mem_of_getElem? hq)), List.take_add_one, hq]
    rfl
theorem len_flat : ∀ L : List Pt, L.length ≤ (L.flatMap ptB).length
  | [] => by simp
  | q :: r => by
    have := len_flat r
    rw [List.flatMap_cons, List.length_append, List.length_cons]
    have h1 : 1 ≤ (ptB q).length := by
      unfold ptB
      split <;> simp [boolB] <;> omega
    omega
theorem dec_enc (L : List Pt) (hl : L.length ≤ 64) (hg : ∀ q ∈ L, Codable q) : decN (encodeN L) = (L, 0) := by
  have e1 : takeB (cntB 64) 0 ⟨encodeN L, 0⟩ = ((L.length : Int), ⟨L.flatMap ptB, 0⟩) := by
    refine takeB_ok rfl (cntB_ok (n := L.length) (num_spell (by omega) (by simp; omega) _) ?_)
    have := len_flat L
    omega
  unfold decN
  rw [e1]
  dsimp only
  rw [show ((L.length : Int)).toNat = L.length by omega, takes_back L hg _ (Nat.le_refl _), if_pos]
  · rw [List.take_of_length_le (Nat.le_refl _)]
  · rw [List.drop_eq_nil_of_le (Nat.le_refl _)]
    rfl
theorem good_code {q : Pt} (h : q.Good) : Codable q := by
  rcases h with ⟨h1, h2, h3, h4, h5⟩ | ⟨h1, h2, h3, h4, h5⟩
  · exact .inl ⟨h1, h3, by omega, by omega, by omega, h5⟩
  · exact .inr ⟨h1, h2, h3, h5⟩
/-- What tells a block by a base makes it of that base. -/
theorem patch_diff {a b : List UInt8} (ha : a.length = 64) (hb : b.length = 64) : patchR a (encodeN (opsN a b)) = .ok b := by
  have hm := made_ops ha hb
  unfold patchR
  rw [dec_enc _ (ops_len ha hb).1 (fun q hq => good_code (hm.good q hq)), if_pos rfl, apply_ops ha hb]

/-- The low bytes of what bytes are read as are those bytes. -/
theorem low_fold : ∀ (l : List UInt8) (a k : Nat), l.length = k → ∀ N, N = foldB a l → lowB N k = l
  | [], a, k, hk, N, _ => by
    subst hk
    rfl
  | c :: l, a, 0, hk, N, _ => by simp at hk
  | c :: l, a, k + 1, hk, N, hN => by
    have hl : l.length = k := by simpa using hk
    have hc := c.toNat_lt
    rw [foldB_cons] at hN
    have ih := low_fold l (a * 256 + c.toNat) k hl N hN
    have hlo := foldB_ge l (a * 256 + c.toNat)
    have hhi := foldB_lt l (a * 256 + c.toNat) (a * 256 + c.toNat + 1) (by omega)
    rw [← hN, hl] at hlo hhi
    have hdiv : N / 256 ^ k = a * 256 + c.toNat := Nat.div_eq_of_lt_le hlo hhi
    unfold lowB
    rw [ih, hdiv, show (a * 256 + c.toNat) % 256 = c.toNat by omega, UInt8.ofNat_toNat]
/-- Bytes that are read as a number are the number's. -/
theorem spell_num {most n : Nat} {b r : List UInt8} (h : numB most b = .ok (n, r)) : b = spellB n ++ r ∧ n ≤ most := by
  cases b with
  | nil => cases h
  | cons c l =>
    unfold numB at h
    simp only [] at h
    obtain ⟨hf1, hf2, hf3⟩ := lead_first c
    have h8 := leadN_le c.toNat
    have hcb := c.toNat_lt
    have hon : onesN (leadN c.toNat) ≤ c.toNat := by
      have : ∀ c : Fin 256, onesN (leadN c.val) ≤ c.val := by decide +kernel
      exact this ⟨c.toNat, c.toNat_lt⟩
    generalize hk : leadN c.toNat = k at *
    split at h
    · cases h
    · rename_i h1
      split at h
      · cases h
      · rename_i h2
        split at h
        · cases h
        · rename_i h3
          have hlk : (l.take k).length = k := by rw [List.length_take]; omega
          generalize hN : foldB (c.toNat - onesN k) (l.take k) = N at *
          cases h
          have hlo := foldB_ge (l.take k) (c.toNat - onesN k)
          have hhi := foldB_lt (l.take k) (c.toNat - onesN k) (c.toNat - onesN k + 1) (by omega)
          rw [hN, hlk] at hlo hhi
          have hko : kOf n = k := by
            refine kOf_eq h8 (fun j hj => ?_) (fun hk8 => ?_)
            · have h4 : 2 ^ (7 * k) ≤ n := by
                rcases Nat.lt_or_ge n (2 ^ (7 * k)) with h5 | h5
                · exact absurd ⟨by omega, h5⟩ h2
                · exact h5
              exact Nat.le_trans (Nat.pow_le_pow_right (by decide) (by omega)) h4
            · refine Nat.lt_of_lt_of_le hhi ?_
              have e : 2 ^ (7 * k + 7) = 2 ^ (7 - k) * 256 ^ k := by
                rw [show (256 : Nat) = 2 ^ 8 by decide, ← Nat.pow_mul, ← Nat.pow_add]
                congr 1
                omega
              rw [e]
              exact Nat.mul_le_mul_right _ (by omega)
          have hdiv : n / 256 ^ k = c.toNat - onesN k := by
            refine Nat.div_eq_of_lt_le hlo hhi
          have hlow : lowB n k = l.take k := low_fold (l.take k) (c.toNat - onesN k) k hlk n hN.symm
          refine ⟨?_, by omega⟩
          unfold spellB
          rw [hko, hdiv, hlow, show onesN k + (c.toNat - onesN k) = c.toNat by omega, UInt8.ofNat_toNat, List.cons_append, List.take_append_drop]
end Go.Proofs.YtnlknnhibnfhcaaDoor.De
