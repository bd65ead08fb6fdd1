/-
  What a law over keccak wants beside its walk: the variable keccak.path as the program's text lays it; a world that meets the condition; a print that comes in as an argument.
-/
import Derived.Test.YtljhfccaoncjeaaDoorKeF
import Derived.Test.YtljhfccaoncjeaaDoorOwn
import Derived.Test.YtljhfccaoncjeaaDoorNum
import Derived.Test.YtljhfccaoncjeaaDoorLaw
import Derived.Deep.Slices
import Derived.ChangeVars
import Derived.JoinedOf
import Derived.LaidLaws
import Derived.LaidHandle
import Derived.Stop.Joined
import Derived.OpenShut
namespace Go.Proofs.YtljhfccaoncjeaaDoor
open Go.ChangeShapes Go.WideShapes Go.ChangeAt Go.RowKit Go.Deep
set_option maxRecDepth 100000

theorem path_named : Tryd.prog.globalNamed "drydock/keccak.path" = some 2 := by kernel_rfl
theorem path_type : (Tryd.prog.globals[2]?).map (·.type) = some 98 := by kernel_rfl
theorem cells_int : Tryd.prog.cellsOf 3 = 1 := by kernel_rfl

/-- What the rows list. -/
def laidP : List (String × DataW Unit) := [("drydock/keccak.path", Rows.laid_drydock_keccak_path)]
def laidQ : List (String × DataW Unit) := [("errors.errorType", Rows.laid_errors_errorType), ("drydock/keccak.path", Rows.laid_drydock_keccak_path)]

def pathD : List (DataW Unit) := Ke.pathL.map fun (n : Nat) => .lit (.int .i64 (n : Int))
theorem path_laid : (Rows.laid_drydock_keccak_path : DataW Unit) = .agg pathD := rfl

theorem path_of_met {W : World} (h : laidMet Tryd.prog laidP W) : Ke.PathAt W := by
  obtain ⟨ps, ⟨g, t, cs, fuel, p, q, h1, h2, h3, h4, _⟩, _⟩ := h
  obtain rfl := Option.some.inj (path_named.symm.trans h1)
  obtain rfl := Option.some.inj (path_type.symm.trans h2)
  obtain ⟨xs, m, _, hx, hl, hxl, hall⟩ := DataW.trod_array Tryd.underlying98 h4
  rw [path_laid] at hx
  have hxs : xs.map (·.1) = pathD := by
    have := congrArg Prod.fst hx
    simpa using this.symm
  intro k hk
  have hi := hall k hk
  obtain ⟨b, hb⟩ : ∃ b, xs[k]? = some b := ⟨_, List.getElem?_eq_getElem (by omega)⟩
  rw [hb, cells_int, Nat.mul_one] at hi
  obtain ⟨z, hcz, hbz, _⟩ := DataW.trod_int Tryd.underlying3 hi
  have h5 : cs.toList[k]? = some (.int .i64 z) := by
    have := congrArg (·[0]?) hcz
    simpa [List.getElem?_take, List.getElem?_drop] using this
  have h6 : (xs.map (·.1))[k]? = some (DataW.lit (.int .i64 z)) := by rw [List.getElem?_map, hb, Option.map_some, hbz]
  rw [hxs] at h6
  unfold pathD at h6
  rw [List.getElem?_map] at h6
  obtain ⟨n, hn, he⟩ := Option.map_eq_some_iff.1 h6
  have hz : z = (n : Int) := by
    simp only [DataW.lit.injEq, Lit.int.injEq, true_and] at he
    exact he.symm
  have hp : Ke.pth k = n := by
    unfold Ke.pth
    rw [List.getD_eq_getElem?_getD, hn]
    rfl
  rw [World.var?_cell path_named h3 k, hp, ← hz]
  simpa using h5
theorem path_lt {W : World} (h : Ke.PathAt W) : 2 < W.heap.size := World.block_lt_of_cell? W _ (h 0 (by omega))
theorem path_of_laid {W : World} (h : laidMetH Tryd.prog laidP W) : Ke.PathAt W := path_of_met (show laidMet Tryd.prog laidP W from h)

/-- A world that meets the conditions: the settled one, with the variables' cells laid. -/
noncomputable def laidWorld (os : Os) : World :=
  let w0 := World.holding Tryd.prog os ⟨#[], #[], []⟩
  { w0 with heap := (w0.heap.modify 0 fun
      | .cells _ t frozen => .cells #[.iface 81 (.agg #[.pointer (some ⟨3, 27, none⟩)])] t frozen
      | o => o).modify 2 fun
      | .cells _ t frozen => .cells Ke.pathC.toArray t frozen
      | o => o }
theorem laidWorld_metP (os : Os) (args : Array Value) : laidMetH Tryd.prog laidP ((laidWorld os).forCall (fun _ _ => 0) ⟨#[], args, []⟩).memory :=
  show laidMet Tryd.prog laidP _ from laidMet_of_run' 8 (by kernel_rfl) (by kernel_rfl)
theorem laidWorld_metQ (os : Os) (args : Array Value) : laidMetH Tryd.prog laidQ ((laidWorld os).forCall (fun _ _ => 0) ⟨#[], args, []⟩).memory :=
  laidMetH_of_parts (laidMet_of_run' 8 (by kernel_rfl) (by kernel_rfl)) (by kernel_rfl)

theorem cells_b32 : Tryd.prog.cellsOf 25 = 32 := by kernel_rfl
section
variable {H : Type} {enc : TypeId × Value → H}
theorem open_prt {w : World} {base b0 : Nat} {r : Reach} {v : Value} {d : DataW H} {p : List MemPlace} (hv : Value.okWide Tryd.prog w r b0 25 v) (h : DataW.Trod enc Tryd.prog w base (fun _ => true) true 25 v d p) :
    ∃ l : List UInt8, l.length = 32 ∧ v = .agg (cellsB l).toArray := by
  obtain ⟨cs, rfl, hsz⟩ : ∃ cs, v = .agg cs ∧ cs.size = Tryd.prog.cellsOf 25 := by
    have := hv
    simp only [Value.okWide, Tryd.underlying25] at this
    obtain ⟨cs, e, hs, _⟩ := this
    exact ⟨cs, e, hs⟩
  rw [cells_b32] at hsz
  obtain ⟨fuel, hf⟩ := h
  obtain ⟨xs, m, _, hx, hl, hxl, hall⟩ := DataW.trod_array Tryd.underlying25 hf
  obtain ⟨B, hB⟩ := choose_lt (α := UInt8) (n := 32) (p := fun i b => cs[i]? = some (byteV b)) (fun i hi => by
    have hi' := hall i hi
    obtain ⟨b, hb⟩ : ∃ b, xs[i]? = some b := ⟨_, List.getElem?_eq_getElem (by omega)⟩
    rw [hb, cells5, Nat.mul_one] at hi'
    obtain ⟨z, hcz, _, wz⟩ := DataW.trod_int Tryd.underlying5 hi'
    obtain ⟨c, hc⟩ := byte_of_wf wz
    refine ⟨c, ?_⟩
    have := congrArg (·[0]?) hcz
    rw [← hc]
    simpa [List.getElem?_take, List.getElem?_drop, Value.cells] using this)
  refine ⟨(List.range 32).map B, by simp, ?_⟩
  congr 1
  apply Array.ext_getElem?
  intro i
  by_cases hi : i < 32
  · rw [hB i hi]
    simp [cellsB, hi]
  · rw [Array.getElem?_eq_none (by omega), Array.getElem?_eq_none (by simp [cellsB]; omega)]
end
end Go.Proofs.YtljhfccaoncjeaaDoor
