/-
  rs's laws: numbers that come in.
-/
import Derived.Test.YtaldpfamgfchoaaDoorRsWl
import Derived.Test.YtaldpfamgfchoaaDoorRsOa
namespace Go.Proofs.YtaldpfamgfchoaaDoor
open Go.ChangeShapes Go.WideShapes Go.ChangeAt Go.RowKit Go.Deep
set_option maxRecDepth 100000
section
variable {H : Type} {enc : TypeId × Value → H}
theorem open_nums {w : World} {d : DataW H} {p : List MemPlace} {a0 : Option Addr} {n c : Nat} (h : DataW.Trod enc Tryd.prog w 0 (fun _ => true) true 54 (.slice a0 n c) d p) :
    ∃ zs : Nat → Int, Rs.SI w (.slice a0 n c) n zs := by
  obtain ⟨fuel, hf⟩ := h
  have hf' : DataW.trod enc Tryd.prog w 0 (fun _ => true) true fuel 54 [.slice a0 n c] = some (d, p) := hf
  rcases open_slice1 Tryd.underlying54 (by kernel_rfl) hf' with ⟨h0, _⟩ | ⟨a, len, cap, m, k, V, D, Pl, h0, _, hl, hm, hmm, hd, hx⟩
  · simp at h0
    obtain ⟨rfl, rfl, rfl⟩ := h0
    exact ⟨fun _ => 0, ⟨_, _, rfl, Nat.le_refl _, by decide, fun h => by omega⟩⟩
  · simp at h0
    obtain ⟨rfl, rfl, rfl⟩ := h0
    simp only [if_true] at hmm
    subst hmm
    obtain ⟨B, hB⟩ := choose_lt (α := Int) (p := fun i b => V i = .int .i64 b) (fun i hi => by
      obtain ⟨x, h1, _, _⟩ := DataW.trod_int Tryd.underlying3 (hx i hi).2
      exact ⟨x, by simpa using h1⟩)
    unfold maxLen at hm
    refine ⟨B, ⟨_, _, rfl, hl, by omega, fun h0 => ?_⟩⟩
    have ha : a = ⟨a.block, a.off, none⟩ := by
      have h0 := (hx 0 (by omega)).1
      obtain ⟨b, o, sp⟩ := a
      cases sp with
      | none => rfl
      | some q =>
        have : w.cell? ((⟨b, o, some q⟩ : Addr).add 0) = none := by
          have e0 : (⟨b, o, some q⟩ : Addr).add 0 = ⟨b, o, some q⟩ := rfl
          rw [e0]
          unfold World.cell?; split <;> simp
        rw [this] at h0; cases h0
    refine ⟨a.block, a.off, by rw [← ha], fun i hi => Rs.SCell.of ?_ (fun x => x)⟩
    have := (hx i (by omega)).1
    rw [hB i (by omega), ha, add_at] at this
    exact this
end
end Go.Proofs.YtaldpfamgfchoaaDoor
