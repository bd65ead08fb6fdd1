/-
  A region that draws its order and holds calls that turn memory, walked once in the text's order: where each operation yields one value in every world of a class of the prover's own, and stays in it.
-/
import Derived.Test.YthbcgimmbcdnmaaDoorRow
import Derived.BigQuiet
import Derived.Deep.QuietTactic
namespace Go.Proofs.YthbcgimmbcdnmaaDoor
open Go.RowKit

/-- A world of the class D. -/
structure InC (D : World → Prop) where
  w : World
  h : D w

section
variable {P : Program}

theorem wp_region_class (D : World → Prop) {id : Nat} {Q : Exit → Act → World → Prop} {a : Act} {w : World} {l : List Oper} (hD : D w.drew) (hm : P.follows .mixedOrders = true) (hB : Region.lexB .any l.toArray = true)
    (h : wpQuiet P l.toArray (fun w' => ∃ i : InC D, w' = i.w) (fun a' => ∀ w', (∃ i : InC D, w' = i.w) → Q .normal a' w') l a) : (Code.region id l.toArray true).wp P Q a w :=
  wp_region_quiet (C := fun w' => ∃ i : InC D, w' = i.w) hm hB ⟨⟨w.drew, hD⟩, rfl⟩ (by simpa using h)

theorem calls_class {D : World → Prop} {f : FuncId} {args : Array Value} {v : Value} {i : InC D} (hc : ∀ W, D W → Calls P f args W fun e w' => e = .returned v ∧ D w') :
    Calls P f args i.w fun e w'' => e = .returned v ∧ ∃ j : InC D, w'' = j.w :=
  (hc i.w i.h).mono fun _ w' ⟨he, hd⟩ => ⟨he, ⟨w', hd⟩, rfl⟩

/-- The same from the middle of a region, where the first k operations have come up. -/
theorem wpAny_class (D : World → Prop) (k : Nat) {l : List Oper} {ops : Array Oper} {n : Nat} {listed : Array Bool} {Q : Exit → Act → World → Prop} {a : Act} {w : World} (hl : ops.toList.drop k = l) (hn : l.length = n) (hs : Region.noSelect ops = true)
    (hB : Region.lexFrom .any ops n k listed = true) (hD : D w)
    (h : wpQuiet P ops (fun w' => ∃ i : InC D, w' = i.w) (fun a' => ∀ w', (∃ i : InC D, w' = i.w) → Q .normal a' w') l a) : wpAny P .any ops Q n listed a w := by
  subst hn
  subst hl
  refine wpAny_of_quiet (C := fun w' => ∃ i : InC D, w' = i.w) (Q := fun a' => ∀ w', (∃ i : InC D, w' = i.w) → Q .normal a' w') (fun a' w' hw' hh => hh w' hw') _ _ _ _ ⟨⟨w, hD⟩, rfl⟩ ?_
  exact wpAnyQ_lex hs _ k listed a (fun j => by simp) hB h

/-- The same, one operation i taken first. -/
theorem wpAny_class1 (D : World → Prop) (i k : Nat) {oi : Oper} {l : List Oper} {ops : Array Oper} {n : Nat} {listed : Array Bool} {Q : Exit → Act → World → Prop} {a : Act} {w : World} (hi : ops[i]? = some oi) (hf : Region.free .any ops listed i = true)
    (hr : (Region.ready .any ops listed).contains i = true) (hl : ops.toList.drop k = l) (hn : l.length = n) (hs : Region.noSelect ops = true)
    (hB : Region.lexFrom .any ops n k (listed.setIfInBounds i true) = true) (hD : D w)
    (h : wpQuiet P ops (fun w' => ∃ i : InC D, w' = i.w) (wpQuiet P ops (fun w' => ∃ i : InC D, w' = i.w) (fun a' => ∀ w', (∃ i : InC D, w' = i.w) → Q .normal a' w') l) [oi] a) : wpAny P .any ops Q (n + 1) listed a w := by
  subst hn
  subst hl
  refine wpAny_of_quiet (C := fun w' => ∃ i : InC D, w' = i.w) (Q := fun a' => ∀ w', (∃ i : InC D, w' = i.w) → Q .normal a' w') (fun a' w' hw' hh => hh w' hw') _ _ _ _ ⟨⟨w, hD⟩, rfl⟩ ?_
  have hq : qOp P ops (fun w' => ∃ i : InC D, w' = i.w) i (wpQuiet P ops (fun w' => ∃ i : InC D, w' = i.w) (fun a' => ∀ w', (∃ i : InC D, w' = i.w) → Q .normal a' w') (ops.toList.drop k)) a := by
    unfold qOp
    simp only [hi]
    exact h
  obtain ⟨v, hy, hK⟩ := yieldsIn_of_qOp hi hq
  exact wpAnyQ_first hi (Region.noSelect_spec hs) _ listed a (Region.free_spec hi hf) (by simpa using hr) hy (wpAnyQ_lex hs _ k _ _ (fun j => by simp) hB hK)

/-- An operation that yields in whatever world, taken first; what has come up written out anew (else the kernel's work doubles with each step). -/
theorem wpAny_takeL {ops : Array Oper} {i : Nat} {oi : Oper} {v : Value} {fuel : Nat} {listed : Array Bool} {a : Act} {w : World} {Q : Exit → Act → World → Prop} (listed' : Array Bool) (hi : ops[i]? = some oi)
    (hs : Region.noSelect ops = true) (hf : Region.free .any ops listed i = true) (hr : (Region.ready .any ops listed).contains i = true)
    (hQ : ∀ c a w, Q (.panic c) (a.put oi.dst v) w → Q (.panic c) a w) (hl : listed.setIfInBounds i true = listed') (hy : Yields P ops oi v a)
    (h : wpAny P .any ops Q fuel listed' (a.put oi.dst v) w) : wpAny P .any ops Q (fuel + 1) listed a w := by
  subst hl
  exact wpAny_take hi hs hf hr hQ hy h
/-- What has come up, written out. -/
theorem wpAny_listed {ops : Array Oper} {fuel : Nat} {listed : Array Bool} {a : Act} {w : World} {Q : Exit → Act → World → Prop} (listed' : Array Bool) (hl : listed = listed') (h : wpAny P .any ops Q fuel listed' a w) : wpAny P .any ops Q fuel listed a w := hl ▸ h

/-- In this order the operations that are left may come up, each free of those behind it. -/
def ordFrom (ops : Array Oper) : List Nat → Array Bool → Bool
  | [], listed => (Region.ready .any ops listed).isEmpty
  | k :: is, listed => (Region.ready .any ops listed).contains k && Region.free .any ops listed k && ordFrom ops is (listed.setIfInBounds k true)
/-- These are the operations of these numbers. -/
inductive At (ops : Array Oper) : List Nat → List Oper → Prop
  | nil : At ops [] []
  | cons {i : Nat} {o : Oper} {is : List Nat} {l : List Oper} (h : ops[i]? = some o) (r : At ops is l) : At ops (i :: is) (o :: l)
theorem wpAnyQ_ord {C : World → Prop} {ops : Array Oper} {Q : Act → Prop} (hs : Region.noSelect ops = true) : ∀ (is : List Nat) (l : List Oper) (listed : Array Bool) (a : Act), At ops is l →
    ordFrom ops is listed = true → wpQuiet P ops C Q l a → wpAnyQ P .any ops C Q l.length listed a
  | [], _, _, _, hat, hB, h => by
    cases hat
    exact ⟨by simpa [ordFrom] using hB, h⟩
  | k :: is, _, listed, a, hat, hB, h => by
    cases hat with
    | cons h0 hr =>
      simp only [ordFrom, Bool.and_eq_true] at hB
      obtain ⟨⟨hrd, hf⟩, hB'⟩ := hB
      obtain ⟨v, hy, hK⟩ := yieldsIn_of_qOp h0 (by unfold qOp; simp only [h0]; exact h)
      exact wpAnyQ_first h0 (Region.noSelect_spec hs) _ listed a (Region.free_spec h0 hf) (by simpa using hrd) hy (wpAnyQ_ord hs is _ _ _ hr hB' hK)
/-- The same in an order of one's own. -/
theorem wpAny_ord (D : World → Prop) (is : List Nat) {l : List Oper} {ops : Array Oper} {n : Nat} {listed : Array Bool} {Q : Exit → Act → World → Prop} {a : Act} {w : World} (hl : At ops is l) (hn : l.length = n) (hs : Region.noSelect ops = true)
    (hB : ordFrom ops is listed = true) (hD : D w)
    (h : wpQuiet P ops (fun w' => ∃ i : InC D, w' = i.w) (fun a' => ∀ w', (∃ i : InC D, w' = i.w) → Q .normal a' w') l a) : wpAny P .any ops Q n listed a w := by
  subst hn
  refine wpAny_of_quiet (C := fun w' => ∃ i : InC D, w' = i.w) (Q := fun a' => ∀ w', (∃ i : InC D, w' = i.w) → Q .normal a' w') (fun a' w' hw' hh => hh w' hw') _ _ _ _ ⟨⟨w, hD⟩, rfl⟩ ?_
  exact wpAnyQ_ord hs is l listed a hl hB h

/-- A whole array or struct loaded, as a step of such a region. -/
theorem quiet_load {D : World → Prop} {ops : Array Oper} {rest : List Oper} {o : Oper} {a : Act} {Q : Act → Prop} (hgd : o.guard = none) (ty : TypeId) (x : Operand) (ho : o.op = .load ty x) (ad : Addr) (hx : a.eval x = .pointer (some ad)) (v : Value)
    (hl : ∀ i : InC D, (loadVar ty ad).run P i.w = .ok v i.w) (h : wpQuiet P ops (fun w' => ∃ i : InC D, w' = i.w) Q rest (a.put o.dst v)) : wpQuiet P ops (fun w' => ∃ i : InC D, w' = i.w) Q (o :: rest) a := by
  refine wpQuiet_step fun K hK => ?_
  simp only [Region.wanted, hgd, if_true]
  refine ⟨v, fun w' hw => ?_, hK _ h⟩
  obtain ⟨i, rfl⟩ := hw
  unfold Oper.quietAt execOp
  simp only [ho, hx, Instr.loadAt, Instr.sureAddr, Sem.run_bind, Sem.run_pure, Result.andThen_ok, hl i]
  exact ⟨rfl, rfl⟩
end

end Go.Proofs.YthbcgimmbcdnmaaDoor
