/-
  mem: what must come whatever the input is; a Mem all of whose blocks are newer than a world.
-/
import Derived.Test.YtdfhjmodacjilaaMeK
namespace Go.Proofs.Ytdfhjmodacjilaa.Me
open Go.RowKit Go.Maps
set_option maxRecDepth 100000
set_option linter.unusedVariables false

def sureL : List En := [⟨[97], [121], false⟩, ⟨[98], [], true⟩]
theorem sure_puts : putL (putL (putL [] ⟨[98], [120], false⟩) ⟨[97], [121], false⟩) ⟨[98], [], true⟩ = sureL := by decide +kernel
theorem sure_one : putL [] ⟨[98], [120], false⟩ = [⟨[98], [120], false⟩] := by decide +kernel
theorem sure_two : putL [⟨[98], [120], false⟩] ⟨[97], [121], false⟩ = [⟨[97], [121], false⟩, ⟨[98], [120], false⟩] := by decide +kernel
theorem sure_three : putL [⟨[97], [121], false⟩, ⟨[98], [120], false⟩] ⟨[98], [], true⟩ = sureL := by decide +kernel

theorem two_ens (w : World) (a b : En) : EnS (w.alloc (.cells (enRows [a, b]).toArray 28)) (.slice (some ⟨w.heap.size, 0, none⟩) 2 2) [a, b] := by
  have h := heap_alloc_new w (.cells (enRows [a, b]).toArray 28)
  refine ⟨_, 2, rfl, Nat.le_refl _, by decide, (fun h => by cases h), fun _ => ⟨_, 0, rfl, fun i e he j u hu => ?_⟩⟩
  rw [cell_of_row _ _ _ _ _ _ h, List.getElem?_toArray, show 0 + i * 3 + j = i * 3 + j by omega, enRows_get (List.getElem?_eq_some_iff.1 hu).1 _ _ he]
  exact hu

end Go.Proofs.Ytdfhjmodacjilaa.Me
