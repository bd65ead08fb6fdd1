/-
  A region that draws its order and holds calls that turn memory, walked once in the text's order: where each operation yields one value in every world of a class of the prover's own, and stays in it.
-/
import Derived.Test.YtdaecmaemlmloaaDoorRow
import Derived.BigQuiet
import Derived.Deep.QuietTactic
namespace Go.Proofs.YtdaecmaemlmloaaDoor
open Go.RowKit

/-- A world of the class D. -/
structure InC (D : World → Prop) where
  w : World
  h : D w

section
variable {P : Program}

theorem wp_region_class (D : World → Prop) {id : Nat} {Q : Exit → Act → World → Prop} {a : Act} {w : World} {l : List Oper} (hD : D w.drew) (hm : P.follows .mixedOrders = true) (hB : Region.lexB .any l.toArray = true)
    (h : wpQuiet P l.toArray (fun w' => ∃ i : InC D, w' = i.w) (fun a' => ∀ w', (∃ i : InC D, w' = i.w) → Q .normal a' w') l a) : (Code.region id l.toArray true).wp P Q a w :=
  wp_region_quiet (C := fun w' => ∃ i : InC D, w' = i.w) hm hB ⟨⟨w.drew, hD⟩, rfl⟩ (by simpa using h)

theorem calls_class {D : World → Prop} {f : FuncId} {args : Array Value} {v : Value} {i : InC D} (hc : ∀ W, D W → Calls P f args W fun e w' => e = .returned v ∧ D w') :
    Calls P f args i.w fun e w'' => e = .returned v ∧ ∃ j : InC D, w'' = j.w :=
  (hc i.w i.h).mono fun _ w' ⟨he, hd⟩ => ⟨he, ⟨w', hd⟩, rfl⟩
end

end Go.Proofs.YtdaecmaemlmloaaDoor
