/-
  An argument of marks takes at most 2^47 of them.
-/
import Derived.Test.YtaolbbkkpdghaaaGreatDoorPkOpen
namespace Go.Proofs.YtaolbbkkpdghaaaGreatDoor.Tg
open Go.ChangeShapes Go.WideShapes Go.ChangeAt Go.RowKit Go.Deep Pk
set_option maxRecDepth 100000

theorem bytesBool : Tryz.prog.bytesOf 4 = 1 := by kernel_rfl

section
variable {H : Type}
theorem len_bools {ts : List TypeId} {ds : List (DataW H)} (hsz : (DataW.weightsEach Tryz.prog ts ds).all (· ≤ reachBytes) = true) {j : Nat} {d : DataW H} {l : List Bool} (ht : ts[j]? = some 31) (hd : ds[j]? = some d)
    (hl : 0 < l.length → ∃ e s : List (DataW H), d = .slice e s ∧ e.length = l.length) : l.length ≤ 140737488355328 := by
  rcases Nat.eq_zero_or_pos l.length with h0 | h0
  · omega
  · obtain ⟨e, s, rfl, he⟩ := hl h0
    have h1 := sized_slice hsz ht hd Tryz.underlying31
    have h2 := reachBytes_lt
    rw [bytesBool] at h1
    omega
end

end Go.Proofs.YtaolbbkkpdghaaaGreatDoor.Tg
