/-
  rs, the document's: Part, Encode.
-/
import Derived.Test.YtaldpfamgfchoabDoorRsU
namespace Go.Proofs.YtaldpfamgfchoabDoor.Rs
open Go.RowKit Gf
set_option maxRecDepth 100000

theorem load_c {ops : Array Oper} {rest : List Oper} {o : Oper} {a : Act} {w : World} {Q : Exit → Act → World → Prop} (hgd : o.guard = none) (x : Operand) (ho : o.op = .load 30 x) (g : Nat) (hx : a.eval x = .pointer (some ⟨g, 0, none⟩)) {u v : Value}
    (h : w.heap[g]? = some (.cells #[u, v] 30 (0, 0))) (hn : wpList Tryd.prog ops Q rest (a.put o.dst (.agg #[u, v])) w) : wpList Tryd.prog ops Q (o :: rest) a w :=
  wpList_load_mid hgd 30 x ho g 0 hx 30 #[u, v] #[u, v] (0, 0) _ h Tryd.underlying30 rfl info_code (fun j _ => by rw [Nat.zero_add]) hn

end Go.Proofs.YtaldpfamgfchoabDoor.Rs
