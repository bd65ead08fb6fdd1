/-
  What a law over errors.As wants beside its walk: slices of bytes opened; the variable errors.errorType by its handle; a world that meets the condition.
-/
import Derived.Test.YtobofagalblhiaaDoorKeptFacts
import Derived.Test.YtobofagalblhiaaDoorNum
import Derived.Test.YtobofagalblhiaaDoorLaw
import Derived.Deep.Slices
import Derived.ChangeVars
import Derived.JoinedOf
import Derived.LaidLaws
import Derived.LaidHandle
import Derived.Stop.Joined
namespace Go.Proofs.YtobofagalblhiaaDoor
open Go.ChangeShapes Go.WideShapes Go.ChangeAt Go.RowKit Go.Deep
set_option maxRecDepth 100000

theorem cells5 : Tryd.prog.cellsOf 5 = 1 := by kernel_rfl

theorem byte_of_wf {x : Int} (h : (Lit.int .u8 x).wf = true) : ∃ b : UInt8, Value.int .u8 x = byteV b := by
  have e1 : IntKind.u8.min = 0 := by decide
  have e2 : IntKind.u8.max = 255 := by decide
  simp only [Lit.wf, e1, e2, Bool.and_eq_true, decide_eq_true_eq] at h
  refine ⟨UInt8.ofNat x.toNat, ?_⟩
  have e3 : (UInt8.ofNat x.toNat).toNat = x.toNat := by simp; omega
  unfold byteV
  rw [e3]
  congr 1
  omega

section
variable {H : Type} {enc : TypeId × Value → H}

theorem open_bytes {w : World} {d : DataW H} {p : List MemPlace} {a0 : Option Addr} {n c : Nat} (h : DataW.Trod enc Tryd.prog w 0 (fun _ => true) true 22 (.slice a0 n c) d p) :
    ∃ l : List UInt8, n = l.length ∧ ReadsAs w a0 l ∧ (0 < l.length → ∀ ad, a0 = some ad → ad.block < w.heap.size) ∧ n ≤ 9223372036854775807 := by
  obtain ⟨fuel, hf⟩ := h
  have hf' : DataW.trod enc Tryd.prog w 0 (fun _ => true) true fuel 22 [.slice a0 n c] = some (d, p) := hf
  rcases open_slice1 Tryd.underlying22 cells5 hf' with ⟨h0, _⟩ | ⟨a, len, cap, m, k, V, D, Pl, h0, _, hl, hm, hmm, _, hx⟩
  · simp at h0
    obtain ⟨rfl, rfl, rfl⟩ := h0
    exact ⟨[], rfl, fun h => by simp at h, fun h => by simp at h, by decide⟩
  · simp at h0
    obtain ⟨rfl, rfl, rfl⟩ := h0
    simp only [if_true] at hmm
    subst hmm
    obtain ⟨B, hB⟩ := choose_lt (α := UInt8) (p := fun i b => V i = byteV b) (fun i hi => by
      obtain ⟨x, h1, _, h3⟩ := DataW.trod_int Tryd.underlying5 (hx i hi).2
      obtain ⟨b, hb⟩ := byte_of_wf h3
      exact ⟨b, by rw [← hb]; simpa using h1⟩)
    have hln : ((List.range n).map B).length = n := by simp
    unfold maxLen at hm
    refine ⟨(List.range n).map B, hln.symm, fun h0 => ⟨a, rfl, fun j v hv => ?_⟩, fun h0 ad e => ?_, by omega⟩
    · have hj : j < n := by
        have := (List.getElem?_eq_some_iff.1 hv).1
        rwa [length_cellsB, hln] at this
      rw [(hx j (by omega)).1, hB j (by omega)]
      simp [cellsB, hj] at hv
      rw [← hv]
    · cases e
      rw [hln] at h0
      have h1 := World.block_lt_of_cell? w _ (hx 0 (by omega)).1
      have hb : (a.add 0).block = a.block := rfl
      rwa [hb] at h1

end

theorem et_at : Tryd.prog.globalNamed "errors.errorType" = some 0 := by kernel_rfl
theorem rt_at : (Tryd.prog.cutTypes.find? (·.1 == "internal/reflectlite.rtype")).map (·.2) = some 72 := by kernel_rfl
theorem oneRow : ((List.range Tryd.prog.types.size).filter fun t => Tryd.prog.rowNamed t [101, 114, 114, 111, 114]) = [25] := by kernel_rfl

/-- What the rows list. -/
def laidErr : List (String × DataW Unit) := [("errors.errorType", Rows.laid_errors_errorType)]

/-- What the condition gives a walk: the variable's one cell. -/
theorem err_of_laid {W : World} (h : laidMetH Tryd.prog laidErr W) : ErrCell W := by
  have h' : laidMet Tryd.prog [] W ∧ handlesMet Tryd.prog laidErr W := h
  obtain ⟨name, u, ty, e1, e2, e3, e4, e5⟩ := h'.2 _ (List.mem_singleton.2 rfl)
  have en : name = [101, 114, 114, 111, 114] := (Option.some.inj e1).symm
  subst en
  obtain rfl := Option.some.inj (rt_at.symm.trans e2)
  have hm : ty ∈ (List.range Tryd.prog.types.size).filter fun t => Tryd.prog.rowNamed t [101, 114, 114, 111, 114] := List.mem_filter.2 ⟨List.mem_range.2 e3, e4⟩
  rw [oneRow] at hm
  obtain rfl := List.mem_singleton.1 hm
  have hh : typeHandle Tryd.prog 25 = .pointer (some ⟨1, 25, none⟩) := by kernel_rfl
  rw [hh] at e5
  unfold ErrCell hnd
  simpa using World.var?_cell et_at e5 0

/-- A world that meets the condition: the settled one, with the variable's cell laid. -/
noncomputable def laidWorld (os : Os) : World :=
  let w0 := World.holding Tryd.prog os ⟨#[], #[], []⟩
  { w0 with heap := w0.heap.modify 0 fun
      | .cells _ t frozen => .cells #[.iface 72 (.agg #[.pointer (some ⟨1, 25, none⟩)])] t frozen
      | o => o }
theorem laidWorld_met (os : Os) (args : Array Value) : laidMetH Tryd.prog laidErr ((laidWorld os).forCall (fun _ _ => 0) ⟨#[], args, []⟩).memory :=
  laidMetH_of_parts (laidMet_nil _ _) (by kernel_rfl)

end Go.Proofs.YtobofagalblhiaaDoor
