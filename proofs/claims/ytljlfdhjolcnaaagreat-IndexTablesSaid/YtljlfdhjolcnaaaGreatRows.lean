/-
  No cell of these rows narrows 'for every input' (looked for: loops, veiled, ifaces, maps, wideKeys, modest, calm, conditions, laid).
  DERIVED. THE GIVEN ROWS OF THIS SEAT. 3 by the template 'for every input the law returns true; each argument reads behind the call as it read before'; 0 by the template 'total and deterministic' (their statements: YtljlfdhjolcnaaaGreatTotals.lean).
  GIVEN WITH THE SEED: the statements are not yours to turn. If you find one false, say at which input.
  Laid BY PROGRAM, IN A SANDBOX (cutbox-rows.mjs): the forced cells as the released guide's own fill.sh prints them over the translation e5762c376730b763… (all of the seat's roots in one cut). By AI agents, Wed Nov 11 2026. No macro, syntax, notation, axiom, sorry.
-/
import Derived.Test.YtljlfdhjolcnaaaGreatChecked
import GoSem.Claim
import GoSem.ClaimJoined
import GoSem.ClaimMapViews
import Derived.JoinedTies
import Derived.KernelRfl
namespace Go.Proofs.YtljlfdhjolcnaaaGreat
/- THE CELL 'sum', in the pinned program and in every row, IS THE sha256 OF THE DUMP (.gsa) THAT YtljlfdhjolcnaaaGreatProg.lean LOADS. Nothing in Lean hashes anything: it is a label: what it is worth is what the hold of that sum in a sandbox is worth. -/
noncomputable def Tryz.pinned : Pinned := { name := "ytljlfdhjolcnaaagreat", sum := "e5762c376730b7637dd5d474e71e49de31222e2c96300e41e14ab3bd482b26d5", checked := Tryz.checked }
namespace Rows
def none {H : Type} : Left H := { results := [], args := [] }

/-- 'drydocklaw15.IndexLast': WHATEVER THE INPUT: true; the input reads as it did. -/
def indexLastSpec : ChangeSpec := { name := "indexLast", fn := fun _ => fun
  | [d1, d2] => { results := [.lit (.bool true)], args := [d1, d2] }
  | _ => none }
def indexLastRow : OpenClaim := { program := "ytljlfdhjolcnaaagreat", sum := "e5762c376730b7637dd5d474e71e49de31222e2c96300e41e14ab3bd482b26d5", func := "drydock/drydocklaw15.IndexLast", spec := "indexLast", inPlace := ["internal/bytealg.abigen_runtime_cmpstring", "sync/atomic.AddInt64", "slices.overlaps[*drydock/index.shared]", "slices.overlaps[drydock/api.Entry]"], unfollowed := true, recurses := true, apart := false }
def IndexLastSaid : Prop := indexLastRow.holds Tryz.pinned (OpenSpec.ofChange indexLastSpec)

/-- ITS FALSE NEIGHBOUR: 'it returns false'. Refute it at one input. -/
def indexLastWrong : ChangeSpec := { name := "indexLast", fn := fun _ => fun
  | [d1, d2] => { results := [.lit (.bool false)], args := [d1, d2] }
  | _ => none }
def IndexLastWrongFalsely : Prop := indexLastRow.holds Tryz.pinned (OpenSpec.ofChange indexLastWrong)

/-- 'drydocklaw15.IndexViews': WHATEVER THE INPUT: true; the input reads as it did. -/
def indexViewsSpec : ChangeSpec := { name := "indexViews", fn := fun _ => fun
  | [d1, d2] => { results := [.lit (.bool true)], args := [d1, d2] }
  | _ => none }
def indexViewsRow : OpenClaim := { program := "ytljlfdhjolcnaaagreat", sum := "e5762c376730b7637dd5d474e71e49de31222e2c96300e41e14ab3bd482b26d5", func := "drydock/drydocklaw15.IndexViews", spec := "indexViews", inPlace := ["internal/bytealg.abigen_runtime_cmpstring", "sync/atomic.AddInt64", "slices.overlaps[*drydock/index.shared]", "slices.overlaps[drydock/api.Entry]", "sync/atomic.LoadInt64"], unfollowed := true, recurses := true, apart := false }
def IndexViewsSaid : Prop := indexViewsRow.holds Tryz.pinned (OpenSpec.ofChange indexViewsSpec)

/-- ITS FALSE NEIGHBOUR: 'it returns false'. Refute it at one input. -/
def indexViewsWrong : ChangeSpec := { name := "indexViews", fn := fun _ => fun
  | [d1, d2] => { results := [.lit (.bool false)], args := [d1, d2] }
  | _ => none }
def IndexViewsWrongFalsely : Prop := indexViewsRow.holds Tryz.pinned (OpenSpec.ofChange indexViewsWrong)

/-- 'drydocklaw15.IndexTables': WHATEVER THE INPUT: true; the input reads as it did. -/
def indexTablesSpec : ChangeSpec := { name := "indexTables", fn := fun _ => fun
  | [d1, d2] => { results := [.lit (.bool true)], args := [d1, d2] }
  | _ => none }
def indexTablesRow : OpenClaim := { program := "ytljlfdhjolcnaaagreat", sum := "e5762c376730b7637dd5d474e71e49de31222e2c96300e41e14ab3bd482b26d5", func := "drydock/drydocklaw15.IndexTables", spec := "indexTables", inPlace := ["internal/bytealg.abigen_runtime_cmpstring", "sync/atomic.AddInt64", "slices.overlaps[*drydock/index.shared]", "slices.overlaps[drydock/api.Entry]", "sync/atomic.LoadInt64"], unfollowed := true, recurses := true, apart := false }
def IndexTablesSaid : Prop := indexTablesRow.holds Tryz.pinned (OpenSpec.ofChange indexTablesSpec)

/-- ITS FALSE NEIGHBOUR: 'it returns false'. Refute it at one input. -/
def indexTablesWrong : ChangeSpec := { name := "indexTables", fn := fun _ => fun
  | [d1, d2] => { results := [.lit (.bool false)], args := [d1, d2] }
  | _ => none }
def IndexTablesWrongFalsely : Prop := indexTablesRow.holds Tryz.pinned (OpenSpec.ofChange indexTablesWrong)

/- THE SECOND FORM. 'bulk': how many values and letters a reading holds, each counted each time it is reached (what is shared counts as often as it is met; a slice's spare places count too). A statement '..UptoSaid' is the law's where the arguments, and the package variables that the reading takes, are together of bulk at most 1048576: NARROWER than '..Said'. Prove '..Said' where nothing that the law and all that it calls make is longer than what came in: it says more and counts as full. Else prove '..UptoSaid'. A law counts once. -/
mutual
def uptoBulk {H : Type} : DataW H → Nat
  | .lit (.string bytes) => bytes.length + 1
  | .lit _ => 1
  | .nil => 1
  | .ptr d => uptoBulk d + 1
  | .slice elems spare => uptoBulkAll elems + uptoBulkAll spare + 1
  | .agg parts => uptoBulkAll parts + 1
  | .iface _ d => uptoBulk d + 1
  | .map entries => uptoBulkEntries entries + 1
  | .held _ => 1
def uptoBulkAll {H : Type} : List (DataW H) → Nat
  | [] => 0
  | d :: r => uptoBulk d + uptoBulkAll r
def uptoBulkEntries {H : Type} : List (Lit × DataW H) → Nat
  | [] => 0
  | x :: r => uptoBulkEntry x + uptoBulkEntries r
def uptoBulkEntry {H : Type} : Lit × DataW H → Nat
  | (.string bytes, d) => bytes.length + uptoBulk d + 1
  | (_, d) => uptoBulk d + 1
 end
def uptoSmall : (H : Type) → List (DataW H) → Bool := fun _ ds => decide (uptoBulkAll ds ≤ 1048576)
def OpenSpec.upto (s : _root_.Go.ChangeSpec) : _root_.Go.OpenSpec := { _root_.Go.OpenSpec.ofChange s with cond := some uptoSmall }

/-- 'drydocklaw15.IndexLast', WHERE WHAT IT READS IS OF BULK AT MOST 1048576: true; the input reads as it did. -/
def indexLastUptoRow : OpenClaim := { program := "ytljlfdhjolcnaaagreat", sum := "e5762c376730b7637dd5d474e71e49de31222e2c96300e41e14ab3bd482b26d5", func := "drydock/drydocklaw15.IndexLast", spec := "indexLast", inPlace := ["internal/bytealg.abigen_runtime_cmpstring", "sync/atomic.AddInt64", "slices.overlaps[*drydock/index.shared]", "slices.overlaps[drydock/api.Entry]"], unfollowed := true, recurses := true, apart := false, narrowed := true }
def IndexLastUptoSaid : Prop := indexLastUptoRow.holds Tryz.pinned (OpenSpec.upto indexLastSpec)

/-- 'drydocklaw15.IndexViews', WHERE WHAT IT READS IS OF BULK AT MOST 1048576: true; the input reads as it did. -/
def indexViewsUptoRow : OpenClaim := { program := "ytljlfdhjolcnaaagreat", sum := "e5762c376730b7637dd5d474e71e49de31222e2c96300e41e14ab3bd482b26d5", func := "drydock/drydocklaw15.IndexViews", spec := "indexViews", inPlace := ["internal/bytealg.abigen_runtime_cmpstring", "sync/atomic.AddInt64", "slices.overlaps[*drydock/index.shared]", "slices.overlaps[drydock/api.Entry]", "sync/atomic.LoadInt64"], unfollowed := true, recurses := true, apart := false, narrowed := true }
def IndexViewsUptoSaid : Prop := indexViewsUptoRow.holds Tryz.pinned (OpenSpec.upto indexViewsSpec)

/-- 'drydocklaw15.IndexTables', WHERE WHAT IT READS IS OF BULK AT MOST 1048576: true; the input reads as it did. -/
def indexTablesUptoRow : OpenClaim := { program := "ytljlfdhjolcnaaagreat", sum := "e5762c376730b7637dd5d474e71e49de31222e2c96300e41e14ab3bd482b26d5", func := "drydock/drydocklaw15.IndexTables", spec := "indexTables", inPlace := ["internal/bytealg.abigen_runtime_cmpstring", "sync/atomic.AddInt64", "slices.overlaps[*drydock/index.shared]", "slices.overlaps[drydock/api.Entry]", "sync/atomic.LoadInt64"], unfollowed := true, recurses := true, apart := false, narrowed := true }
def IndexTablesUptoSaid : Prop := indexTablesUptoRow.holds Tryz.pinned (OpenSpec.upto indexTablesSpec)

end Rows
end Go.Proofs.YtljlfdhjolcnaaaGreat
