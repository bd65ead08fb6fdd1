/-
  merge: whether an order's keys rise; orders as they come in.
-/
import Derived.Test.YtdfhjmodacjilaaMgI
namespace Go.Proofs.Ytdfhjmodacjilaa.Mg
open Go.RowKit Go.Maps Me
set_option maxRecDepth 100000
set_option linter.unusedVariables false

/-- Each key is above the one ahead of it, up to the n-th. -/
def upB (L : List En) (n : Nat) : Prop := ∀ i a b, i + 1 < n → L[i]? = some a → L[i + 1]? = some b → ltB a.k b.k = true
theorem sorted_up : ∀ {L : List En}, upB L L.length → Sorted L
  | [], _ => sorted_nil
  | [a], _ => by simp [Sorted]
  | a :: b :: r, h => by
    have ih : Sorted (b :: r) := sorted_up (fun i x y hi hx hy => h (i + 1) x y (by simp at hi ⊢; omega) (by simpa using hx) (by simpa using hy))
    have hab := h 0 a b (by simp) rfl rfl
    refine List.pairwise_cons.2 ⟨fun x hx => ?_, ih⟩
    rcases List.mem_cons.1 hx with rfl | hx
    · exact hab
    · exact lt_trans hab (sorted_head ih x hx)
theorem up_sorted {L : List En} (h : Sorted L) (n : Nat) : upB L n := fun i a b _ ha hb => sorted_at h (Nat.lt_succ_self i) ha hb
instance (L : List En) : Decidable (Sorted L) := inferInstanceAs (Decidable (List.Pairwise _ L))
theorem leq_not (p q : List UInt8) : (Op.bytesLess q p || q == p) = !(ltB p q) := by
  rw [less_eq]
  cases h : ltB p q with
  | true =>
    rw [lt_asymm h]
    simpa using fun e => lt_ne h e.symm
  | false =>
    cases h2 : ltB q p with
    | true => rfl
    | false => rw [lt_one h h2]; simp

set_option maxHeartbeats 1200000 in
theorem asc_any (w : World) (x : Value) (L : List En) (hx : EnS w x L) (hl : L.length ≤ 1000000) :
    Calls Try.prog 14 #[x] w fun e w' => e = .returned (.bool (decide (Sorted L))) ∧ Stay (fun _ => False) w w' := by
  have HX := Lib.hid hx
  obtain ⟨a0, c, rfl⟩ := hx.form
  obtain ⟨R, hR⟩ : ∃ R, R = decide (Sorted L) := ⟨_, rfl⟩
  have HT := Lib.hid (show upB L L.length → R = true by intro h; rw [hR]; exact decide_eq_true (sorted_up h))
  have HF := Lib.hid (show ∀ i a b, L[i]? = some a → L[i + 1]? = some b → ltB a.k b.k = false → R = false by
    intro i a b ha hb h
    rw [hR]
    refine decide_eq_false (fun hs => ?_)
    rw [sorted_at hs (Nat.lt_succ_self i) ha hb] at h
    cases h)
  rw [← hR]
  have hlc : (L.length : Int) ≤ 1000000 := by omega
  clear hx hR hl
  go_enter Try.func14, Try.ntmps14
  go_wp2
  go_loopw [3] (fun i wr => ∃ k : Nat, i = .int .i64 ((k : Int) + 1) ∧ (k ≤ L.length) ∧ Hid (upB L (k + 1)) ∧ Stay (fun _ => False) w wr) (fun i _ => L.length + 1 - (intOf i).toNat)
  case atStart => exact ⟨0, rfl, Nat.zero_le _, Lib.hid (fun i a b hi => by omega), Stay.refl _ _⟩
  case round =>
    obtain ⟨k, rfl, hk, hb, hst⟩ := hrel
    have HS := Lib.hid hst
    clear hst
    by_cases hlt : k + 1 < L.length
    · obtain ⟨p, hp⟩ : ∃ p, L[k]? = some p := ⟨_, List.getElem?_eq_getElem (by omega)⟩
      obtain ⟨q, hq⟩ : ∃ q, L[k + 1]? = some q := ⟨_, List.getElem?_eq_getElem hlt⟩
      obtain ⟨g, o, rfl, _, hc⟩ := (HX.out.stay0 HS.out).at (by omega)
      obtain ⟨c0, _, _⟩ := hc _ p hp
      obtain ⟨d0, _, _⟩ := hc _ q hq
      have HP := Lib.hid hp
      have HQ := Lib.hid hq
      clear hc hp hq
      go_wp2
      go_quiet (fail)
      have HW := Lib.hid (HS.out.trans (stay_drewN (X := fun _ => False) wr nq))
      rw [leq_not]
      cases hlt3 : ltB p.k q.k with
      | true =>
        have HB := Lib.hid (show upB L (k + 1 + 1) from fun i a b hi ha hb' => by
          by_cases h : i = k
          · subst h; rw [HP.out] at ha; rw [HQ.out] at hb'; cases ha; cases hb'; exact hlt3
          · exact hb.out i a b (by omega) ha hb')
        clear hlt3
        rw [show (!true) = false from rfl]
        go_wp2
        go_roundw
        case rel => exact ⟨k + 1, by go_num, by omega, HB, HW.out⟩
        case measure => simp [intOf]; omega
      | false =>
        have hu := HF.out k p q HP.out HQ.out hlt3
        clear hlt3
        subst hu
        rw [show (!false) = true from rfl]
        go_wp2
        go_ret
        exact ⟨rfl, HW.out⟩
    · have hu := HT.out (fun i a b hi ha hb' => hb.out i a b (by omega) ha hb')
      subst hu
      go_wp2
      go_ret
      exact ⟨rfl, HS.out⟩

/-- A slice that reads as orders. -/
def ESs (w : World) (x : Value) (Ls : List (List En)) : Prop :=
  ∃ a0 c, x = .slice a0 Ls.length c ∧ Ls.length ≤ c ∧ c ≤ 9223372036854775807 ∧ (0 < Ls.length → ∃ g o, a0 = some ⟨g, o, none⟩ ∧ ∀ i L, Ls[i]? = some L → ∃ v, w.cell? ⟨g, o + i, none⟩ = some v ∧ EnS w v L)
section
variable {w w' : World} {x : Value} {Ls : List (List En)}
theorem ESs.stay0 (h : ESs w x Ls) (hs : Stay (fun _ => False) w w') : ESs w' x Ls := by
  obtain ⟨a0, c, rfl, h1, h2, h3⟩ := h
  refine ⟨a0, c, rfl, h1, h2, fun h0 => ?_⟩
  obtain ⟨g, o, rfl, hc⟩ := h3 h0
  refine ⟨g, o, rfl, fun i L hL => ?_⟩
  obtain ⟨v, k1, k2⟩ := hc i L hL
  exact ⟨v, hs.cell k1 (fun x => x), k2.stay0 hs⟩
theorem ESs.form (h : ESs w x Ls) : ∃ a c, x = .slice a Ls.length c := by
  obtain ⟨a0, c, e, _⟩ := h
  exact ⟨a0, c, e⟩
theorem ESs.at {a0 : Option Addr} {n c i : Nat} {L : List En} (h : ESs w (.slice a0 n c) Ls) (hi : Ls[i]? = some L) : ∃ g o v, a0 = some ⟨g, o, none⟩ ∧ w.cell? ⟨g, o + i, none⟩ = some v ∧ EnS w v L := by
  obtain ⟨a1, c1, e, h1, h2, h3⟩ := h
  cases e
  obtain ⟨g, o, rfl, hc⟩ := h3 (by have := (List.getElem?_eq_some_iff.1 hi).1; omega)
  obtain ⟨v, k1, k2⟩ := hc i L hi
  exact ⟨g, o, v, rfl, k1, k2⟩
end
theorem hasL_snoc {Ls : List (List En)} {j : Nat} {L : List En} (h : Ls[j]? = some L) (n : Nat) (x : En) : hasL 0 (Ls.take (j + 1)) n x ↔ hasL 0 (Ls.take j) n x ∨ (n = j ∧ x ∈ L) := by
  have hj := (List.getElem?_eq_some_iff.1 h).1
  constructor
  · rintro ⟨i, l, h1, h2, h3⟩
    have hi : i < j + 1 := by have := (List.getElem?_eq_some_iff.1 h1).1; rw [List.length_take] at this; omega
    rw [List.getElem?_take_of_lt hi] at h1
    by_cases hij : i = j
    · subst hij
      rw [h] at h1
      cases h1
      exact .inr ⟨by omega, h3⟩
    · exact .inl ⟨i, l, by rw [List.getElem?_take_of_lt (by omega)]; exact h1, h2, h3⟩
  · rintro (⟨i, l, h1, h2, h3⟩ | ⟨rfl, h2⟩)
    · have hi : i < j := by have := (List.getElem?_eq_some_iff.1 h1).1; rw [List.length_take] at this; omega
      rw [List.getElem?_take_of_lt hi] at h1
      exact ⟨i, l, by rw [List.getElem?_take_of_lt (by omega)]; exact h1, h2, h3⟩
    · exact ⟨n, L, by rw [List.getElem?_take_of_lt (Nat.lt_succ_self n)]; exact h, by omega, h2⟩
/-- The orders of a reader so far: those of the first j that have an entry. -/
structure Sofar (Ls : List (List En)) (j : Nat) (H : List Od) : Prop where
  g : Good H
  h : ∀ n x, hasO H n x ↔ hasL 0 (Ls.take j) n x
  lt : ∀ o ∈ H, o.n < j
  len : H.length ≤ j
theorem Sofar.zero (Ls : List (List En)) : Sofar Ls 0 [] := by
  refine ⟨⟨by simp, fun o ho => ?_, fun o ho => ?_⟩, fun n x => ⟨fun h => ?_, fun h => ?_⟩, fun o ho => ?_, Nat.le_refl _⟩
  · cases ho
  · cases ho
  · obtain ⟨o, ho, _⟩ := h
    cases ho
  · rw [List.take_zero] at h
    exact absurd h (hasL_nil 0 n x)
  · cases ho
theorem Sofar.skip {Ls : List (List En)} {j : Nat} {H : List Od} (h : Sofar Ls j H) (hL : Ls[j]? = some []) : Sofar Ls (j + 1) H :=
  ⟨h.g, fun n x => by rw [h.h, hasL_snoc hL]; simp, fun o ho => Nat.lt_succ_of_lt (h.lt o ho), Nat.le_succ_of_le h.len⟩
theorem Sofar.put {Ls : List (List En)} {j : Nat} {H : List Od} {L : List En} {o : Od} (h : Sofar Ls j H) (hL : Ls[j]? = some L) (hn : o.n = j) (hl : o.l = L) (hne : L ≠ []) (hs : Sorted L) : Sofar Ls (j + 1) (H ++ [o]) := by
  refine ⟨⟨?_, fun q hq => ?_, fun q hq => ?_⟩, fun n x => ?_, fun q hq => ?_, ?_⟩
  · rw [List.map_append, List.nodup_append]
    refine ⟨h.g.nd, by simp, fun a ha b hb => ?_⟩
    obtain ⟨q, hq, rfl⟩ := List.mem_map.1 ha
    simp at hb
    have := h.lt q hq
    omega
  · rcases List.mem_append.1 hq with hq | hq
    · exact h.g.srt q hq
    · rw [List.mem_singleton.1 hq, hl]; exact hs
  · rcases List.mem_append.1 hq with hq | hq
    · exact h.g.ne q hq
    · rw [List.mem_singleton.1 hq, hl]; exact hne
  · rw [hasL_snoc hL, ← h.h]
    constructor
    · rintro ⟨q, hq, h1, h2⟩
      rcases List.mem_append.1 hq with hq | hq
      · exact .inl ⟨q, hq, h1, h2⟩
      · rw [List.mem_singleton.1 hq] at h1 h2
        exact .inr ⟨by omega, by rw [← hl]; exact h2⟩
    · rintro (⟨q, hq, h1, h2⟩ | ⟨h1, h2⟩)
      · exact ⟨q, List.mem_append_left _ hq, h1, h2⟩
      · exact ⟨o, by simp, by omega, by rw [hl]; exact h2⟩
  · rcases List.mem_append.1 hq with hq | hq
    · exact Nat.lt_succ_of_lt (h.lt q hq)
    · rw [List.mem_singleton.1 hq]; omega
  · rw [List.length_append, List.length_singleton]
    have := h.len
    omega
end Go.Proofs.Ytdfhjmodacjilaa.Mg
