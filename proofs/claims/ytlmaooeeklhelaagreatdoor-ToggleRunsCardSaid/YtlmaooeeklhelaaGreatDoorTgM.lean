/-
  toggle, plainly: what a save leaves behind, where the device goes on and where it crashes.
-/
import Derived.Test.YtlmaooeeklhelaaGreatDoorTgL
namespace Go.Proofs.YtlmaooeeklhelaaGreatDoor.Tg
open Go.RowKit Pk
set_option maxRecDepth 100000

/-! ### A teller is told as it was laid -/
theorem tell_back {n m room : Nat} {b : Bool} (h1 : 1 ≤ n) (h2 : n ≤ topN) (hm : m ≤ room) (hm2 : m < 2 ^ 64) : tellD (pad (tellB n b m)) room = ((n, b, m), 0) := by
  have e : pad (tellB n b m) = spellB n ++ (boolB b ++ (spellB m ++ List.replicate (64 - (tellB n b m).length) 0)) := by
    unfold pad tellB
    simp only [List.append_assoc]
  have t1 : takeB (numB topN) 0 ⟨pad (tellB n b m), 0⟩ = (n, ⟨boolB b ++ (spellB m ++ List.replicate (64 - (tellB n b m).length) 0), 0⟩) := by
    refine takeB_ok rfl ?_
    rw [e]
    exact num_spell (by unfold topN at h2; omega) h2 _
  have t2 : takeB truB false ⟨boolB b ++ (spellB m ++ List.replicate (64 - (tellB n b m).length) 0), 0⟩ = (b, ⟨spellB m ++ List.replicate (64 - (tellB n b m).length) 0, 0⟩) := by
    refine takeB_ok rfl ?_
    cases b <;> rfl
  have t3 : takeB (numB room) 0 ⟨spellB m ++ List.replicate (64 - (tellB n b m).length) 0, 0⟩ = (m, ⟨List.replicate (64 - (tellB n b m).length) 0, 0⟩) :=
    takeB_ok rfl (num_spell hm2 hm _)
  have hz : ¬ pad (tellB n b m) = zsec := by
    intro hz
    have t0 : takeB (numB topN) 0 ⟨zsec, 0⟩ = (0, ⟨List.replicate 63 0, 0⟩) := takeB_ok rfl rfl
    rw [hz, t0] at t1
    have := congrArg Prod.fst t1
    dsimp only at this
    omega
  unfold tellD
  rw [if_neg hz, t1]
  simp only [t2, t3]
  rw [if_neg (by simp; omega)]

/-! ### What a text's bytes are, read back -/
theorem take_pad {l : List UInt8} {k : Nat} : (pad (partB l k)).take (l.length - 64 * k) = partB l k := by
  have h := length_partB l k
  unfold pad
  rcases Nat.lt_or_ge (l.length - 64 * k) 64 with h1 | h1
  · have e : l.length - 64 * k = (partB l k).length := by rw [h]; omega
    rw [e, List.take_left']
    rfl
  · have e : (partB l k).length = 64 := by rw [h]; omega
    rw [e]
    simp only [Nat.sub_self, List.replicate_zero, List.append_nil]
    exact List.take_of_length_le (by omega)

theorem secs_new {d : DS} (hw : ∀ j, (d.cur j).length = 64) (i : Nat) (l : List UInt8) (h : ∀ k, k < parts l.length → d.cur (i + k) = pad (partB l k)) : ∀ k, k ≤ parts l.length → (secsB d i k).take l.length = l.take (64 * k)
  | 0, _ => by simp [secsB]
  | k + 1, hk => by
    rw [take_secs hw, secs_new hw i l h k (by omega), h k (by omega), take_pad]
    unfold partB
    rw [show 64 * (k + 1) = 64 * k + 64 by omega, List.take_add]

theorem bytes_new {d : DS} (hw : ∀ j, (d.cur j).length = 64) (i : Nat) (l : List UInt8) (h : ∀ k, k < parts l.length → d.cur (i + k) = pad (partB l k)) : bytesB d i l.length = l := by
  unfold bytesB
  rw [secs_new hw i l h _ (Nat.le_refl _)]
  exact List.take_of_length_le (by unfold parts; omega)

theorem secs_same {d d' : DS} (i : Nat) : ∀ k, (∀ j, i ≤ j → j < i + k → d'.cur j = d.cur j) → secsB d' i k = secsB d i k
  | 0, _ => rfl
  | k + 1, h => by
    rw [secsB, secsB, secs_same i k (fun j h1 h2 => h j h1 (by omega)), h (i + k) (by omega) (by omega)]
theorem bytes_same {d d' : DS} {i n : Nat} (h : ∀ j, i ≤ j → j < i + parts n → d'.cur j = d.cur j) : bytesB d' i n = bytesB d i n := by
  unfold bytesB
  rw [secs_same i _ h]

/-! ### What writes leave -/
/-- What is loose behind k parts. -/
def wl (L : Nat → Option (List UInt8)) (i : Nat) (l : List UInt8) (k : Nat) : Nat → Option (List UInt8) := fun j => if i ≤ j ∧ j < i + k then some (pad (partB l (j - i))) else L j

theorem wl_zero (L : Nat → Option (List UInt8)) (i : Nat) (l : List UInt8) : wl L i l 0 = L := by
  funext j
  unfold wl
  rw [if_neg (by omega)]
theorem wl_succ (L : Nat → Option (List UInt8)) (i : Nat) (l : List UInt8) (k : Nat) : updL (wl L i l k) (i + k) (pad (partB l k)) = wl L i l (k + 1) := by
  funext j
  simp only [updL, wl]
  by_cases h : j = i + k
  · subst h
    rw [if_pos rfl, if_pos (by omega), Nat.add_sub_cancel_left]
  · rw [if_neg h]
    by_cases h2 : i ≤ j ∧ j < i + k
    · rw [if_pos h2, if_pos (by omega)]
    · rw [if_neg h2, if_neg (by omega)]

theorem down_false {d : DS} (hc : d.cr = false) (hl : d.lo = false) : ¬ down d = true := by simp [down, hc, hl]

theorem writes_shape (l : List UInt8) (d : DS) (i : Nat) (hc : d.cr = false) (hl : d.lo = false) : ∀ k, k ≤ parts l.length → i + k ≤ d.n →
    ((writesD l d i (List.range k)).2 = 0 ∧ ∃ lf wr, (writesD l d i (List.range k)).1 = { d with L := wl d.L i l k, left := lf, wr := wr }) ∨
    ((writesD l d i (List.range k)).2 = 13 ∧ d.ar = true ∧ ∃ t lf wr, t < k ∧ (writesD l d i (List.range k)).1 = { d with L := wl d.L i l t, left := lf, wr := wr, cr := true })
  | 0, _, _ => .inl ⟨rfl, d.left, d.wr, by rw [wl_zero]; rfl⟩
  | k + 1, hk, hn => by
    rcases writes_shape l d i hc hl k (by omega) (by omega) with ⟨h0, lf, wr, h1⟩ | ⟨h0, har, t, lf, wr, ht, h1⟩
    · rw [List.range_succ, writesD_snoc l _ d i k h0, h1, List.length_range]
      have hp := length_partB l k
      have e : ((i : Int) + (k : Int)) = ((i + k : Nat) : Int) := by omega
      rw [e]
      unfold writeD
      rw [if_neg (down_false (d := { d with L := wl d.L i l k, left := lf, wr := wr }) hc hl), if_neg (by show ¬ (_ ∨ (d.n : Int) ≤ _); omega), if_neg (by omega)]
      dsimp only
      by_cases har : d.ar = true
      · rw [if_pos har]
        by_cases hz : lf = 0
        · rw [if_pos hz]
          exact .inr ⟨rfl, har, k, lf, wr, by omega, rfl⟩
        · rw [if_neg hz]
          refine .inl ⟨rfl, lf - 1, wr + 1, ?_⟩
          simp only [DS.wrote, Int.toNat_natCast, wl_succ]
      · rw [if_neg har]
        refine .inl ⟨rfl, lf, wr + 1, ?_⟩
        simp only [DS.wrote, Int.toNat_natCast, wl_succ]
    · refine .inr ?_
      rw [List.range_succ, writesD_stop l _ d i [k] (by omega)]
      exact ⟨h0, har, t, lf, wr, by omega, h1⟩

/-- What write leaves: all is safe; or it has crashed, and what is loose lies among what was to be written. -/
theorem wrAll_shape (l : List UInt8) (d : DS) (i : Nat) (hc : d.cr = false) (hl : d.lo = false) (hn : i + parts l.length ≤ d.n) :
    ((wrAllD d i l).2 = 0 ∧ (wrAllD d i l).1.n = d.n ∧ (wrAllD d i l).1.cr = false ∧ (wrAllD d i l).1.lo = false ∧ (wrAllD d i l).1.ar = d.ar ∧ (wrAllD d i l).1.L = none64 ∧
      ∀ j, (wrAllD d i l).1.s j = (wl d.L i l (parts l.length) j).getD (d.s j)) ∨
    ((wrAllD d i l).2 = 13 ∧ d.ar = true ∧ (wrAllD d i l).1.n = d.n ∧ (wrAllD d i l).1.cr = true ∧ (wrAllD d i l).1.lo = false ∧ (wrAllD d i l).1.s = d.s ∧
      ∃ t, t < parts l.length ∧ (wrAllD d i l).1.L = wl d.L i l t) := by
  unfold wrAllD
  rcases writes_shape l d i hc hl _ (Nat.le_refl _) hn with ⟨h0, lf, wr, h1⟩ | ⟨h0, har, t, lf, wr, ht, h1⟩
  · rw [if_pos h0, h1]
    unfold flushD
    rw [if_neg (down_false (d := { d with L := wl d.L i l (parts l.length), left := lf, wr := wr }) hc hl)]
    exact .inl ⟨rfl, rfl, hc, hl, rfl, rfl, fun j => rfl⟩
  · rw [if_neg (by omega), h1]
    exact .inr ⟨h0, har, rfl, rfl, hl, rfl, t, ht, rfl⟩

end Go.Proofs.YtlmaooeeklhelaaGreatDoor.Tg
