/-
  index: a view.
-/
import Derived.Test.YtljlfdhjolcnaaaGreatDoorIxT
namespace Go.Proofs.YtljlfdhjolcnaaaGreatDoor.Ix
open Go.RowKit Go.Maps Me Mg
set_option maxRecDepth 100000
set_option linter.unusedVariables false
set_option linter.unnecessarySimpa false

/-- Several tables held. -/
def Im.holds (I : Im) (ss : List Nat) : Im := ss.foldl Im.hold I
/-- What a view has. -/
structure Vw where
  A : List En
  Q : List Sh
/-- A view in memory, all of its own blocks among B. -/
structure VAt (B : Nat → Prop) (w : World) (p : Nat) (V : Vw) : Prop where
  ex : ∃ (av tv : Value), w.heap[p]? = some (.cells #[av, tv] 108 (0, 0)) ∧ ((av = .pointer none ∧ V.A = []) ∨ ∃ a, av = ptrV a ∧ MAt B w a V.A) ∧ CO 0 109 w tv (ptrs (V.Q.map (·.s))) ∧ ∀ k, tv.ownBlock = some k → B k
  bp : B p
  srt : Sorted V.A
  nrm : Nrm V.A
section
variable {B B' X : Nat → Prop} {w w' : World} {p : Nat} {V : Vw}
theorem VAt.lt (h : VAt B w p V) : p < w.heap.size := by
  obtain ⟨av, tv, h1, _⟩ := h.ex
  exact (Array.getElem?_eq_some_iff.1 h1).1
theorem VAt.stay (h : VAt B w p V) (hs : Stay X w w') (hX : ∀ k, B k → ¬ X k) : VAt B w' p V := by
  obtain ⟨av, tv, h1, h2, h3, h4⟩ := h.ex
  refine ⟨⟨av, tv, (hs.block p h.lt (hX p h.bp)).trans h1, h2.imp id (fun ⟨a, e, hm⟩ => ⟨a, e, hm.stay hs hX⟩), h3.stay hs (fun k hk => hX k (h4 k hk)), h4⟩, h.bp, h.srt, h.nrm⟩
/-- Other views turn. -/
theorem VAt.keep (h : VAt B w p V) (hs : Stay X w w') (hX : ∀ k, B k → X k → Ty w k 108 ∧ k ≠ p) : VAt B w' p V := by
  obtain ⟨av, tv, h1, h2, h3, h4⟩ := h.ex
  refine ⟨⟨av, tv, (hs.block p h.lt (fun hx => (hX p h.bp hx).2 rfl)).trans h1, h2.imp id (fun ⟨a, e, hm⟩ => ⟨a, e, ?_⟩), h3.stay hs (fun k hk hx => absurd ((hX k (h4 k hk) hx).1.uniq (h3.ty k hk)) (by decide)), h4⟩, h.bp, h.srt, h.nrm⟩
  obtain ⟨hm1, hm2⟩ := Ix.MAt.own hm
  refine (hm1.stay hs (fun k hk hx => ?_)).mono (fun k _ hk => (hm2 k hk).1)
  obtain ⟨hb, _, ht⟩ := hm2 k hk
  rcases ht with ht | ht
  · exact absurd ((hX k hb hx).1.uniq ht) (by decide)
  · exact absurd ((hX k hb hx).1.uniq ht) (by decide)
theorem VAt.stay0 (h : VAt B w p V) (hs : Stay (fun _ => False) w w') : VAt B w' p V := h.stay hs (fun _ _ x => x)
theorem VAt.mono (h : VAt B w p V) (hB : ∀ k, k < w.heap.size → B k → B' k) : VAt B' w p V := by
  obtain ⟨av, tv, h1, h2, h3, h4⟩ := h.ex
  refine ⟨⟨av, tv, h1, h2.imp id (fun ⟨a, e, hm⟩ => ⟨a, e, ?_⟩), h3, fun k hk => hB k (h3.lt k hk).2 (h4 k hk)⟩, hB p h.lt h.bp, h.srt, h.nrm⟩
  obtain ⟨hm1, hm2⟩ := Ix.MAt.own hm
  exact hm1.mono (fun k _ hk => hB k (hm2 k hk).2.1 (hm2 k hk).1)
theorem VAt.mr (h : VAt B w p V) : ∃ av tv, w.heap[p]? = some (.cells #[av, tv] 108 (0, 0)) ∧ MR w av V.A ∧ CS w tv (ptrs (V.Q.map (·.s))) := by
  obtain ⟨av, tv, h1, h2, h3, h4⟩ := h.ex
  refine ⟨av, tv, h1, ?_, h3.cs⟩
  rcases h2 with ⟨rfl, h2⟩ | ⟨a, rfl, hm⟩
  · rw [h2]
    exact MR.nil w
  · exact hm.mr
end
end Go.Proofs.YtljlfdhjolcnaaaGreatDoor.Ix
