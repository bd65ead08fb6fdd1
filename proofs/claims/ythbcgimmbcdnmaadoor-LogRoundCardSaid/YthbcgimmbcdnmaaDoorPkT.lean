/-
  pack: a reader's prints: takeOff, Print.
-/
import Derived.Test.YthbcgimmbcdnmaaDoorPkS
namespace Go.Proofs.YthbcgimmbcdnmaaDoor.Pk
open Go.RowKit
set_option maxRecDepth 100000

theorem sumB_err {b : List UInt8} {c : Nat} (h : sumB b = .error c) : c = 12 := by
  unfold sumB at h
  split at h
  · cases h; rfl
  · cases h
theorem sumB_len {b h r : List UInt8} (hs : sumB b = .ok (h, r)) : h.length = 32 := by
  unfold sumB at hs
  split at hs
  · cases hs
  · cases hs
    rw [List.length_take]
    omega

theorem splice_prt (h0 h : List UInt8) (hl0 : h0.length = 32) (hl : h.length = 32) : splice (cellsB h0) 0 (cellsB h) = cellsB h := by
  unfold splice
  rw [List.take_zero, List.nil_append, Nat.zero_add, length_cellsB, hl, List.drop_eq_nil_of_le (by rw [length_cellsB, hl0]; exact Nat.le_refl _), List.append_nil]

theorem len_z32 : z32.length = 32 := by decide

theorem Slc.blk_lt {w : World} {x : Value} {b : List UInt8} (h : Slc w x b) (h0 : 0 < b.length) : ∀ k, x.ownBlock = some k → k < w.heap.size := by
  intro k hk
  obtain ⟨a0, c, rfl, hr, _⟩ := h
  obtain ⟨ad, rfl, hc⟩ := hr h0
  have hk' : ad.block = k := by simpa [Value.ownBlock] using hk
  subst hk'
  obtain ⟨u, hu⟩ : ∃ u, (cellsB b)[0]? = some u := ⟨_, List.getElem?_eq_getElem (by rw [length_cellsB]; exact h0)⟩
  have := World.block_lt_of_cell? w _ (hc 0 u hu)
  have hb : (ad.add 0).block = ad.block := rfl
  rwa [hb] at this
theorem RdAt.moved {X : Nat → Prop} {w w1 w' : World} {p : Nat} {s : RS} {x v : Value} {r : List UInt8} {c : Nat} (hp : X p) (hk : ∀ k, x.ownBlock = some k → X k ∧ k ≠ p) (hsl : Slc w x s.b) (hne : 0 < r.length → 0 < s.b.length)
    (hv : Sub w1 x v r) (hs : Stay (fun k => k = p ∨ w.heap.size ≤ k) w1 w') (hx' : w'.heap[p]? = some (.cells #[v, errV c] 139 (0, 0))) : RdAt X w' p ⟨r, c⟩ := by
  refine ⟨hp, v, hx', ?_, fun k e => hk k (hv.2 k e)⟩
  obtain ⟨⟨a0, c0, rfl, hr, hn⟩, hv2⟩ := hv
  by_cases h0 : 0 < r.length
  · refine Slc.stay ⟨a0, c0, rfl, hr, hn⟩ hs (fun k e _ hY => ?_)
    have h1 := hv2 k e
    rcases hY with hY | hY
    · exact (hk k h1).2 hY
    · have := hsl.blk_lt (hne h0) k h1
      omega
  · exact ⟨a0, c0, rfl, fun h => absurd h h0, hn⟩

end Go.Proofs.YthbcgimmbcdnmaaDoor.Pk
