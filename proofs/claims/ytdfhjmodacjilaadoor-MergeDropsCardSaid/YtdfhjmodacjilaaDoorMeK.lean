/-
  mem: the document's Get and Range; what must come whatever the input is.
-/
import Derived.Test.YtdfhjmodacjilaaDoorMeJ
namespace Go.Proofs.YtdfhjmodacjilaaDoor.Me
open Go.RowKit Go.Maps
set_option maxRecDepth 100000
set_option linter.unusedVariables false

theorem getL_take {L : List En} {k : List UInt8} {j : Nat} {e : En} (h : getL (L.take j) k = none) (he : L[j]? = some e) : getL (L.take (j + 1)) k = if e.k = k then some e else none := by
  rw [List.take_add_one, he]
  unfold getL at h ⊢
  rw [Option.toList_some, List.find?_append, h, Option.none_or, List.find?_singleton]
  by_cases hk : e.k = k <;> simp [hk]
theorem getL_some {L : List En} {k : List UInt8} {j : Nat} {e : En} (h : getL (L.take j) k = some e) : getL L k = some e := by
  have h0 : L = L.take j ++ L.drop j := (List.take_append_drop j L).symm
  rw [h0]
  unfold getL at h ⊢
  rw [List.find?_append, h, Option.some_or]

theorem rangeL_succ {L : List En} {j : Nat} {e : En} (he : L[j]? = some e) (a b : List UInt8) : rangeL (L.take (j + 1)) a b = rangeL (L.take j) a b ++ (if (!ltB e.k a && (b == [] || ltB e.k b)) = true then [e] else []) := by
  rw [List.take_add_one, he]
  unfold rangeL
  rw [Option.toList_some, List.filter_append]
  congr 1
  rw [List.filter_cons, List.filter_nil]
theorem rangeL_len (L : List En) (a b : List UInt8) : (rangeL L a b).length ≤ L.length := List.length_filter_le _ _

end Go.Proofs.YtdfhjmodacjilaaDoor.Me
