/-
  mem: how many, how many bytes, a key's entry, all dropped.
-/
import Derived.Test.YtdfhjmodacjilaaMeC
namespace Go.Proofs.Ytdfhjmodacjilaa.Me
open Go.RowKit Go.Maps
set_option maxRecDepth 100000
set_option linter.unusedVariables false

theorem MR.ptr {w : World} {pv : Value} {L : List En} (h : MR w pv L) : ∃ p0, pv = .pointer p0 := by
  rcases h with ⟨e, _⟩ | ⟨p, v, e, _⟩
  · exact ⟨_, e⟩
  · exact ⟨_, e⟩
theorem alloc_en {ops : Array Oper} {rest : List Oper} {o : Oper} {a : Act} {w : World} {Q : Exit → Act → World → Prop} (hgd : o.guard = none) (ho : o.op = .alloc 28)
    (hn : wpList Try.prog ops Q rest (a.put o.dst (.pointer (some ⟨w.heap.size, 0, none⟩))) (w.alloc (.cells (enC ⟨[], [], false⟩).toArray 28))) : wpList Try.prog ops Q (o :: rest) a w :=
  wpList_alloc_at hgd _ ho zeroV (zero_en w) hn

end Go.Proofs.Ytdfhjmodacjilaa.Me
