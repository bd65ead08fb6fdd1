/-
  bloom's laws: what must come whatever the input is.
-/
import Derived.Test.YtgchdgdhjafdbaaDoorBoF
import Derived.Test.YtgchdgdhjafdbaaDoorBoG
namespace Go.Proofs.YtgchdgdhjafdbaaDoor.Bo
open Go.RowKit Pk
set_option maxRecDepth 100000

theorem sure_bits : bitsN 8 1 [97] = [2] := by decide
theorem sure_full : fullB (addB (List.replicate 8 false) [2]) = 1 := by decide
set_option maxHeartbeats 1000000 in
theorem sure_any (w : World) : Calls Tryd.prog 17 #[] w fun e w' => e = .returned (.bool true) ∧ Stay (fun _ => False) w w' := by
  go_enter Tryd.func17, Tryd.ntmps17
  go_wp2_with fail
  refine (new_any 8 1 w (by decide) (by decide) (by decide) (by decide)).mono ?_
  rintro e w1 ⟨p, g, rfl, hp, hg, hf, hs⟩
  go_wp2_with fail
  refine (may_any w1 p g 1 _ [97] hf (by decide)).mono ?_
  rintro e w2 ⟨rfl, hs2⟩
  have hlen : (List.replicate 8 false).length = 8 := rfl
  rw [hlen, sure_bits, mayB_none (by decide)]
  have hf2 := hf.stay0 hs2
  have hs12 := hs.trans hs2
  clear hs hs2 hf
  go_wp2_with fail
  refine (add_any w2 p g 1 _ [97] hf2 (by decide)).mono ?_
  rintro e w3 ⟨rfl, hf3, hs3⟩
  rw [hlen, sure_bits] at hf3
  have hs13 : Stay (fun _ => False) w w3 := stay_seal (X := fun k => w.heap.size ≤ k) ((hs12.mono (fun _ x => x.elim)).trans (hs3.mono (fun i (e : i = g) => by omega))) (fun k hk => hk)
  clear hs3 hs12 hf2
  go_wp2_with fail
  refine (full_any w3 p g 1 _ hf3).mono ?_
  rintro e w4 ⟨rfl, rfl⟩
  rw [sure_full]
  have hlen3 : (addB (List.replicate 8 false) [2]).length = 8 := rfl
  go_wp2_with fail
  refine (may_any w3 p g 1 _ [97] hf3 (by decide)).mono ?_
  rintro e w4 ⟨rfl, hs4⟩
  rw [hlen3, sure_bits, mayB_add (by decide)]
  go_wp2
  go_ret
  exact ⟨rfl, hs13.trans hs4⟩

end Go.Proofs.YtgchdgdhjafdbaaDoor.Bo
