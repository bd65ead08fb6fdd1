/-
  An array of three bytes that comes in by value.
-/
import Derived.Test.YtkbkjpeghbiadaaDoorOwn
import Derived.Laws.IdiomArrays
namespace Go.Proofs.YtkbkjpeghbiadaaDoor
open Go.ChangeShapes Go.WideShapes Go.ChangeAt Go.RowKit Go.Deep

theorem cells_b3 : Tryd.prog.cellsOf 42 = 3 := by kernel_rfl
theorem cells_one_b3 : Tryd.prog.cellsOf 5 = 1 := by kernel_rfl
section
variable {H : Type} {enc : TypeId × Value → H}
theorem open_b3 {w : World} {base b0 : Nat} {r : Reach} {v : Value} {d : DataW H} {p : List MemPlace} (hv : Value.okWide Tryd.prog w r b0 42 v) (h : DataW.Trod enc Tryd.prog w base (fun _ => true) true 42 v d p) :
    ∃ b0 b1 b2 : UInt8, v = .agg #[byteV b0, byteV b1, byteV b2] := by
  obtain ⟨cs, rfl, hsz⟩ : ∃ cs, v = .agg cs ∧ cs.size = Tryd.prog.cellsOf 42 := by
    have := hv
    simp only [Value.okWide, Tryd.underlying42] at this
    obtain ⟨cs, e, hs, _⟩ := this
    exact ⟨cs, e, hs⟩
  rw [cells_b3] at hsz
  obtain ⟨l⟩ := cs
  obtain ⟨c0, c1, c2, rfl⟩ : ∃ a b c, l = [a, b, c] := by
    match l, hsz with
    | [a, b, c], _ => exact ⟨a, b, c, rfl⟩
  obtain ⟨fuel, hf⟩ := h
  obtain ⟨y0, y1, y2, m, hx, hy0, hy1, hy2⟩ := trod_array3 Tryd.underlying42 cells_one_b3 hf
  obtain ⟨x0, e0, rfl, w0⟩ := DataW.trod_int Tryd.underlying5 hy0
  obtain ⟨x1, e1, rfl, w1⟩ := DataW.trod_int Tryd.underlying5 hy1
  obtain ⟨x2, e2, rfl, w2⟩ := DataW.trod_int Tryd.underlying5 hy2
  obtain ⟨b0, k0⟩ := byte_of_wf w0
  obtain ⟨b1, k1⟩ := byte_of_wf w1
  obtain ⟨b2, k2⟩ := byte_of_wf w2
  simp at e0 e1 e2
  exact ⟨b0, b1, b2, by rw [e0, e1, e2, k0, k1, k2]⟩
end

end Go.Proofs.YtkbkjpeghbiadaaDoor
