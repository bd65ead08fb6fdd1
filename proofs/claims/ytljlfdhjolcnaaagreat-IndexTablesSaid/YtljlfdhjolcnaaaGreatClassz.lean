/-
  A region that draws its order and holds calls that turn memory, walked once in the text's order: where each operation yields one value in every world of a class of the prover's own, and stays in it.
-/
import Derived.Test.YtljlfdhjolcnaaaGreatRowz
import Derived.BigQuiet
import Derived.Deep.QuietTactic
namespace Go.Proofs.YtljlfdhjolcnaaaGreat
open Go.RowKit

/-- A world of the class D. -/
structure InC (D : World → Prop) where
  w : World
  h : D w

section
variable {P : Program}

theorem wp_region_class (D : World → Prop) {id : Nat} {Q : Exit → Act → World → Prop} {a : Act} {w : World} {l : List Oper} (hD : D w.drew) (hm : P.follows .mixedOrders = true) (hB : Region.lexB .any l.toArray = true)
    (h : wpQuiet P l.toArray (fun w' => ∃ i : InC D, w' = i.w) (fun a' => ∀ w', (∃ i : InC D, w' = i.w) → Q .normal a' w') l a) : (Code.region id l.toArray true).wp P Q a w :=
  wp_region_quiet (C := fun w' => ∃ i : InC D, w' = i.w) hm hB ⟨⟨w.drew, hD⟩, rfl⟩ (by simpa using h)

theorem calls_class {D : World → Prop} {f : FuncId} {args : Array Value} {v : Value} {i : InC D} (hc : ∀ W, D W → Calls P f args W fun e w' => e = .returned v ∧ D w') :
    Calls P f args i.w fun e w'' => e = .returned v ∧ ∃ j : InC D, w'' = j.w :=
  (hc i.w i.h).mono fun _ w' ⟨he, hd⟩ => ⟨he, ⟨w', hd⟩, rfl⟩

/-- A whole array or struct loaded, as a step of such a region. -/
theorem quiet_load {D : World → Prop} {ops : Array Oper} {rest : List Oper} {o : Oper} {a : Act} {Q : Act → Prop} (hgd : o.guard = none) (ty : TypeId) (x : Operand) (ho : o.op = .load ty x) (ad : Addr) (hx : a.eval x = .pointer (some ad)) (v : Value)
    (hl : ∀ i : InC D, (loadVar ty ad).run P i.w = .ok v i.w) (h : wpQuiet P ops (fun w' => ∃ i : InC D, w' = i.w) Q rest (a.put o.dst v)) : wpQuiet P ops (fun w' => ∃ i : InC D, w' = i.w) Q (o :: rest) a := by
  refine wpQuiet_step fun K hK => ?_
  simp only [Region.wanted, hgd, if_true]
  refine ⟨v, fun w' hw => ?_, hK _ h⟩
  obtain ⟨i, rfl⟩ := hw
  unfold Oper.quietAt execOp
  simp only [ho, hx, Instr.loadAt, Instr.sureAddr, Sem.run_bind, Sem.run_pure, Result.andThen_ok, hl i]
  exact ⟨rfl, rfl⟩
end

end Go.Proofs.YtljlfdhjolcnaaaGreat
