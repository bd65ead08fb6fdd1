/-
  pack: what several laws want beside the contracts.
-/
import Derived.Test.YthbcgimmbcdnmaaDoorPkF
namespace Go.Proofs.YthbcgimmbcdnmaaDoor.Pk
open Go.RowKit
set_option maxRecDepth 100000

def M64 : Nat := 18446744073709551615

theorem Slc.first {w : World} {a0 : Option Addr} {b : List UInt8} {c k : Nat} (h : Slc w (.slice a0 b.length c) b) (hk : k ≤ b.length) : Slc w (.slice a0 k c) (b.take k) := by
  obtain ⟨a1, c1, e, hr, hn, hc, hm⟩ := h
  cases e
  have hl : (b.take k).length = k := by rw [List.length_take]; omega
  refine ⟨a0, c, by rw [hl], fun h0 => ?_, hn, by omega, hm⟩
  obtain ⟨ad, e, hcell⟩ := hr (by omega)
  refine ⟨ad, e, fun j v hv => hcell j v ?_⟩
  simp only [cellsB, List.map_take, List.getElem?_take] at hv
  split at hv
  · exact hv
  · cases hv

theorem ruint_at (X : Nat → Prop) (w : World) (p : Nat) (s : RS) (most : Nat) (m : Int) (hm : m = (most : Int)) (h : RdAt X w p s) : Calls Tryd.prog 53 #[.pointer (some ⟨p, 0, none⟩), .int .u64 m] w fun e w' => e = .returned (u64V (takeB (numB most) 0 s).1) ∧ RdAt X w' p (takeB (numB most) 0 s).2 ∧ Stay (fun k => k = p) w w' := by
  subst hm
  exact ruint_any X w p s most h

/-- A reader behind base: what it turns lies behind base. -/
theorem rstay {w0 w w' : World} {X : Nat → Prop} {p : Nat} {s : RS} (h0 : Stay (fun _ => False) w0 w) (h : RdAt X w p s) (hX : ∀ k, X k → w0.heap.size ≤ k) (hs : Stay (fun k => k = p) w w') : Stay (fun _ => False) w0 w' :=
  stay_seal (X := fun k => k = p) ((h0.mono (fun _ x => x.elim)).trans hs) (fun k hk => by
    have hk' : k = p := hk
    subst hk'
    exact hX _ h.own)

theorem Owns.at {base : Nat} {w : World} {v : Value} {l : List UInt8} (h : Owns base w v l) (h0 : 0 < l.length) : ∃ g cap, v = .slice (some ⟨g, 0, none⟩) l.length cap ∧ l.length ≤ cap ∧ cap ≤ 9223372036854775807 := by
  rcases h.2 with ⟨_, hn⟩ | ⟨g, cap, cur, e, _, _, h1, h2, _⟩
  · omega
  · exact ⟨g, cap, e, h1, by unfold maxLen at h2; omega⟩


end Go.Proofs.YthbcgimmbcdnmaaDoor.Pk
