/-
  delta's laws: their arguments opened: blocks.
-/
import Derived.Test.YtnlknnhibnfhcaaDeA
import Derived.Test.YtnlknnhibnfhcaaPkOpen
import Derived.Laws.IdiomArrays
import Derived.OpenShut
namespace Go.Proofs.Ytnlknnhibnfhcaa
open Go.ChangeShapes Go.WideShapes Go.ChangeAt Go.RowKit Go.Deep Pk
set_option maxRecDepth 100000

theorem De.i64_wf {x : Int} (h : (Lit.int .i64 x).wf = true) : -9223372036854775808 ≤ x ∧ x ≤ 9223372036854775807 := by
  have e1 : IntKind.i64.min = -9223372036854775808 := by decide
  have e2 : IntKind.i64.max = 9223372036854775807 := by decide
  simp only [Lit.wf, e1, e2, Bool.and_eq_true, decide_eq_true_eq] at h
  exact h
theorem cells_b64 : Try.prog.cellsOf 23 = 64 := by kernel_rfl
section
variable {H : Type} {enc : TypeId × Value → H}
theorem open_blk {w : World} {base b0 : Nat} {r : Reach} {v : Value} {d : DataW H} {p : List MemPlace} (hv : Value.okWide Try.prog w r b0 23 v) (h : DataW.Trod enc Try.prog w base (fun _ => true) true 23 v d p) :
    ∃ l : List UInt8, l.length = 64 ∧ v = arrV l := by
  obtain ⟨cs, rfl, hsz⟩ : ∃ cs, v = .agg cs ∧ cs.size = Try.prog.cellsOf 23 := by
    have := hv
    simp only [Value.okWide, Try.underlying23] at this
    obtain ⟨cs, e, hs, _⟩ := this
    exact ⟨cs, e, hs⟩
  rw [cells_b64] at hsz
  obtain ⟨fuel, hf⟩ := h
  obtain ⟨xs, m, _, hx, hl, hxl, hall⟩ := DataW.trod_array Try.underlying23 hf
  obtain ⟨B, hB⟩ := choose_lt (α := UInt8) (n := 64) (p := fun i b => cs[i]? = some (byteV b)) (fun i hi => by
    have hi' := hall i hi
    obtain ⟨b, hb⟩ : ∃ b, xs[i]? = some b := ⟨_, List.getElem?_eq_getElem (by omega)⟩
    rw [hb, Pk.cells5, Nat.mul_one] at hi'
    obtain ⟨z, hcz, _, wz⟩ := DataW.trod_int Try.underlying5 hi'
    obtain ⟨c, hc⟩ := Pk.byte_of_wf wz
    refine ⟨c, ?_⟩
    have := congrArg (·[0]?) hcz
    rw [← hc]
    simpa [List.getElem?_take, List.getElem?_drop, Value.cells] using this)
  refine ⟨(List.range 64).map B, by simp, ?_⟩
  unfold arrV
  congr 1
  apply Array.ext_getElem?
  intro i
  by_cases hi : i < 64
  · rw [hB i hi]
    simp [cellsB, hi]
  · rw [Array.getElem?_eq_none (by omega), Array.getElem?_eq_none (by simp [cellsB]; omega)]

end
end Go.Proofs.Ytnlknnhibnfhcaa
