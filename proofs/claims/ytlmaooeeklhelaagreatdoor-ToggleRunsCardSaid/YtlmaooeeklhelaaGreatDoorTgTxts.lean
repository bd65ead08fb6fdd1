/-
  Texts that come in as an argument: a slice of slices of bytes.
-/
import Derived.Test.YtlmaooeeklhelaaGreatDoorPkOpen
import Derived.Test.YtlmaooeeklhelaaGreatDoorTgS
namespace Go.Proofs.YtlmaooeeklhelaaGreatDoor.Tg
open Go.ChangeShapes Go.WideShapes Go.ChangeAt Go.RowKit Go.Deep Pk
set_option maxRecDepth 100000

/-- A slice of texts: each one's value and bytes. -/
def Txts (w : World) (lp : Option Addr) (xs : List (Value × List UInt8)) : Prop :=
  xs.length ≤ 9223372036854775807 ∧ (0 < xs.length → ∃ lb lo, lp = some ⟨lb, lo, none⟩ ∧ lb < w.heap.size ∧ ∀ k v, xs[k]? = some v → w.cell? ⟨lb, lo + k, none⟩ = some v.1 ∧ Slc w v.1 v.2)

theorem cells_txt : Tryz.prog.cellsOf 37 = 1 := by kernel_rfl

section
variable {H : Type} {enc : TypeId × Value → H}
theorem open_txts {w : World} {d : DataW H} {p : List MemPlace} {a0 : Option Addr} {n c : Nat} (h : DataW.Trod enc Tryz.prog w 0 (fun _ => true) true 62 (.slice a0 n c) d p) :
    ∃ xs : List (Value × List UInt8), n = xs.length ∧ Txts w a0 xs := by
  obtain ⟨fuel, hf⟩ := h
  have hf' : DataW.trod enc Tryz.prog w 0 (fun _ => true) true fuel 62 [.slice a0 n c] = some (d, p) := hf
  rcases open_slice Tryz.underlying62 hf' with ⟨h0, _⟩ | ⟨a, len, cap, m, k, D, Pl, h0, _, hl, hm, hmm, _, hx⟩
  · simp at h0
    obtain ⟨rfl, rfl, rfl⟩ := h0
    exact ⟨[], rfl, by decide, fun h => by simp at h⟩
  · simp at h0
    obtain ⟨rfl, rfl, rfl⟩ := h0
    simp only [if_true] at hmm
    subst hmm
    rw [cells_txt] at hx
    by_cases hn0 : n = 0
    · subst hn0; exact ⟨[], rfl, by decide, fun h => by simp at h⟩
    · have one : ∀ i, i < n → ∃ cv : Value, w.cell? (a.add (i * 1)) = some cv ∧ ∃ x y m, DataW.trod enc Tryz.prog w 0 (fun _ => true) true m 37 [cv] = some (x, y) := by
        intro i hi
        obtain ⟨cs, hc, ht⟩ := hx i (by omega)
        obtain ⟨_, hlen, hcell⟩ := World.cells?_some hc
        match cs, hlen with
        | [cv], _ =>
          have h0 := hcell 0 (by omega)
          refine ⟨cv, ?_, _, _, _, ht⟩
          have e0 : (a.add (i * 1)).add 0 = a.add (i * 1) := rfl
          rw [e0] at h0
          simpa using h0
      have ha : a = ⟨a.block, a.off, none⟩ ∧ a.block < w.heap.size := by
        obtain ⟨cv, h0, _⟩ := one 0 (by omega)
        have e0 : a.add (0 * 1) = a := rfl
        rw [e0] at h0
        refine ⟨?_, World.block_lt_of_cell? w a h0⟩
        obtain ⟨b, o, sp⟩ := a
        cases sp with
        | none => rfl
        | some q =>
          have : w.cell? ⟨b, o, some q⟩ = none := by unfold World.cell?; split <;> simp
          rw [this] at h0; cases h0
      obtain ⟨V, hV⟩ := choose_lt (α := Value × List UInt8) (p := fun i v => w.cell? ⟨a.block, a.off + i, none⟩ = some v.1 ∧ Slc w v.1 v.2) (fun i hi => by
        obtain ⟨cv, hc, x, y, m, ht⟩ := one i hi
        rw [ha.1, add_at, Nat.mul_one] at hc
        have hs : ∃ kp q c, cv = .slice kp q c := by
          rcases open_slice Tryz.underlying37 ht with ⟨h0, _⟩ | ⟨a, len, cap, m, n, D, Pl, h0, _⟩
          · simp only [List.cons.injEq, and_true] at h0; exact ⟨_, _, _, h0⟩
          · simp only [List.cons.injEq, and_true] at h0; exact ⟨_, _, _, h0⟩
        obtain ⟨kp, q, c, rfl⟩ := hs
        obtain ⟨l, rfl, hsl, _⟩ := open_slc (p := y) (d := x) ⟨m, ht⟩
        exact ⟨(_, l), hc, hsl⟩)
      have hln : ((List.range n).map V).length = n := by simp
      unfold maxLen at hm
      refine ⟨(List.range n).map V, hln.symm, by rw [hln]; omega, fun _ => ⟨a.block, a.off, by rw [← ha.1], ha.2, fun i v hv => ?_⟩⟩
      have hi : i < n := by
        have := (List.getElem?_eq_some_iff.1 hv).1
        rwa [hln] at this
      have hvi : v = V i := by simpa [hi] using hv.symm
      rw [hvi]
      exact hV i (by omega)
end

/-- A text of those that came in lies where the device isn't. -/
theorem txts_txt {w : World} {pd ps pm lb lo k : Nat} {v : Value × List UInt8} (hc : w.cell? ⟨lb, lo + k, none⟩ = some v.1 ∧ Slc w v.1 v.2) (hF : From w.heap.size pd ps pm) : Txt w pd ps pm v.1 v.2 :=
  ⟨hc.2, fun h0 _ hk => hF.not_own (slc_block_lt hc.2 h0 hk)⟩

end Go.Proofs.YtlmaooeeklhelaaGreatDoor.Tg
