/-
  toggle: write: the parts of a text, one behind the other, into sectors from one on, and a flush; where the device's error stops it.
-/
import Derived.Test.YthbcgimmbcdnmaaDoorTgA
import Derived.Test.YthbcgimmbcdnmaaDoorTgB
namespace Go.Proofs.YthbcgimmbcdnmaaDoor.Tg
open Go.RowKit Go.Shelf Pk
set_option maxRecDepth 100000
attribute [local go_sem] Oper.semAt_some

/-- Part number k of a text. -/
def partB (l : List UInt8) (k : Nat) : List UInt8 := (l.drop (64 * k)).take 64
theorem length_partB (l : List UInt8) (k : Nat) : (partB l k).length = min 64 (l.length - 64 * k) := by simp [partB]

/-- Parts ks of l, one behind the other, from sector i on; where the device answers an error it stops: the device, and the error's number. -/
def writesD (l : List UInt8) : DS → Int → List Nat → DS × Nat
  | d, _, [] => (d, 0)
  | d, i, k :: ks => if (writeD d i (partB l k)).2 = 0 then writesD l (writeD d i (partB l k)).1 (i + 1) ks else writeD d i (partB l k)

theorem writesD_snoc (l : List UInt8) : ∀ (ks : List Nat) (d : DS) (i : Int) (k : Nat), (writesD l d i ks).2 = 0 → writesD l d i (ks ++ [k]) = writeD (writesD l d i ks).1 (i + ks.length) (partB l k)
  | [], d, i, k, _ => by
    simp only [writesD, List.nil_append, List.length_nil]
    have e : i + ((0 : Nat) : Int) = i := by omega
    rw [e]
    by_cases h : (writeD d i (partB l k)).2 = 0
    · rw [if_pos h]; rw [← h]
    · rw [if_neg h]
  | k0 :: ks, d, i, k, h => by
    simp only [writesD, List.cons_append] at h ⊢
    by_cases h0 : (writeD d i (partB l k0)).2 = 0
    · rw [if_pos h0] at h
      rw [if_pos h0, if_pos h0, writesD_snoc l ks _ _ k h]
      have e : i + 1 + (ks.length : Int) = i + ((k0 :: ks).length : Int) := by simp; omega
      rw [e]
    · rw [if_neg h0] at h; exact absurd h h0

theorem writesD_stop (l : List UInt8) : ∀ (ks : List Nat) (d : DS) (i : Int) (rest : List Nat), (writesD l d i ks).2 ≠ 0 → writesD l d i (ks ++ rest) = writesD l d i ks
  | [], _, _, _, h => absurd rfl h
  | k0 :: ks, d, i, rest, h => by
    simp only [writesD, List.cons_append] at h ⊢
    by_cases h0 : (writeD d i (partB l k0)).2 = 0
    · rw [if_pos h0] at h
      rw [if_pos h0, if_pos h0, writesD_stop l ks _ _ rest h]
    · rw [if_neg h0, if_neg h0]

theorem writesD_ok (l : List UInt8) : ∀ (ks : List Nat) (d : DS) (i K : Int), DOk d K → DOk (writesD l d i ks).1 (K + ks.length)
  | [], _, _, K, h => h.mono (by simp)
  | k0 :: ks, d, i, K, h => by
    simp only [writesD]
    have h1 := writeD_ok h i (partB l k0)
    split
    · exact (writesD_ok l ks _ (i + 1) (K + 1) h1).mono (by simp; omega)
    · exact h1.mono (by simp; omega)

theorem writesD_n (l : List UInt8) : ∀ (ks : List Nat) (d : DS) (i : Int), (writesD l d i ks).1.n = d.n
  | [], _, _ => rfl
  | k0 :: ks, d, i => by
    simp only [writesD]
    split
    · rw [writesD_n l ks, writeD_n]
    · exact writeD_n _ _ _

/-- write, as a function. -/
def wrAllD (d : DS) (i : Int) (l : List UInt8) : DS × Nat :=
  if (writesD l d i (List.range (parts l.length))).2 = 0 then flushD (writesD l d i (List.range (parts l.length))).1 else writesD l d i (List.range (parts l.length))

theorem keepsFrom_stay {X : Nat → Prop} {B : Nat} {W W' : World} (h : Stay X W W') (hx : ∀ k, X k → k < B) : KeepsFrom B W W' :=
  ⟨h.size, fun k o hB hk _ => (h.block k (Array.getElem?_eq_some_iff.1 hk).1 (fun hX => by have := hx k hX; omega)).trans hk⟩

/-- A part of a slice that reads as l reads as the part. -/
theorem arg_part {w : World} {pd ps pm : Nat} {a0 : Option Addr} {c : Nat} {l : List UInt8} (h : Arg w pd ps pm (.slice a0 l.length c) l) (k : Nat) : Arg w pd ps pm (partV a0 l.length k) (partB l k) := by
  obtain ⟨a1, c1, e, hr, ho⟩ := h.form
  cases e
  refine ⟨_, _, by rw [partV, length_partB], fun h0 => ?_, fun h0 ad e => ?_⟩
  · rw [length_partB] at h0
    obtain ⟨ad, rfl, hc⟩ := hr (by omega)
    refine ⟨_, rfl, fun j v hv => ?_⟩
    rw [Addr.add_add]
    refine hc _ v ?_
    have hj : j < 64 := by
      have := (List.getElem?_eq_some_iff.1 hv).1
      rw [length_cellsB, length_partB] at this
      omega
    simp only [cellsB, partB, List.map_take, List.map_drop, List.getElem?_take, List.getElem?_drop, if_pos hj] at hv
    exact hv
  · rw [length_partB] at h0
    cases a0 with
    | none => cases e
    | some ad0 =>
      cases e
      have : (ad0.add (64 * k)).block = ad0.block := by unfold Addr.add; split <;> rfl
      rw [this]
      exact ho (by omega) ad0 rfl

theorem Arg.stay {X : Nat → Prop} {w w' : World} {pd ps pm : Nat} {x : Value} {l : List UInt8} (h : Arg w pd ps pm x l) (hs : Stay X w w') (hx : ∀ k, k < w.heap.size → X k → own pd ps pm k) : Arg w' pd ps pm x l := by
  obtain ⟨a0, c, rfl, hr, ho⟩ := h.form
  refine ⟨a0, c, rfl, hr.stay hs (fun h0 ad e hX => ?_), ho⟩
  obtain ⟨ad', e', hc⟩ := hr h0
  rw [e] at e'
  cases e'
  have h1 : (cellsB l)[0]? = some ((cellsB l)[0]'(by rw [length_cellsB]; exact h0)) := List.getElem?_eq_getElem _
  have h2 := hc 0 _ h1
  have e0 : ad.add 0 = ad := by unfold Addr.add; simp
  rw [e0] at h2
  exact ho h0 ad e (hx _ (World.block_lt_of_cell? w ad h2) hX)

end Go.Proofs.YthbcgimmbcdnmaaDoor.Tg
