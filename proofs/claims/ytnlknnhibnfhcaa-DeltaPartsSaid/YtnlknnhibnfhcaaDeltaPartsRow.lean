/-
  DeltaParts answers true for every input, and each argument reads afterwards as it read before. No condition.
-/
import Derived.Test.YtnlknnhibnfhcaaDeParts
import Derived.Test.YtnlknnhibnfhcaaDeOpenB
import Derived.Test.YtnlknnhibnfhcaaLaw
import Derived.JoinedOf
import Derived.ChangeVars
import Derived.SizedLaws
namespace Go.Proofs.Ytnlknnhibnfhcaa
open Go.ChangeShapes Go.WideShapes Go.ChangeAt Go.RowKit
set_option maxRecDepth 100000

theorem deltaParts_lifted (os : Os) (started : os.Started) (H : Type) (enc : TypeId × Value → H) :
    ReturnsInHanded {} Try.checked os 5 .any (Rows.deltaPartsSpec.pre6 enc Try.prog Try.f5 Rows.deltaPartsRow.domain false) (Rows.deltaPartsSpec.post enc Try.prog Try.f5 false true false false) := by
  refine returnsInHanded_of_change_sized (C := Try.checked) Try.own started (by kernel_rfl) Try.func5
    (ChangeSpec.witness6 (enc := enc) (C := Try.checked) false ⟨#[], #[.agg (cellsB (List.replicate 64 0)).toArray, .agg (cellsB (List.replicate 64 0)).toArray], []⟩ 8 (by kernel_rfl) (by kernel_rfl) (by kernel_rfl) (by kernel_rfl)) ?_
  intro W base args ds gs before hval0 hW _ hsz _
  have hval : ∀ (j : Nat) t v, Try.f5.params[j]? = some t → args[j]? = some v → Value.okWide Try.prog W .any base t v := hval0
  have hW' := hW
  obtain ⟨p, q, hA0, hV, rfl, hfz, hnd⟩ := hW
  have hA : DataW.TrodAll enc Try.prog W 0 (fun _ => true) true Try.f5.params.toList args.toList ds p := hA0
  have hAk := hA
  rw [Try.params5] at hA hval
  obtain ⟨v0, v1, d0, d1, p0, p1, rfl, rfl, rfl, h0, h1⟩ := trodAll_two hA
  obtain ⟨rfl, rfl⟩ := trodVars_none hV
  obtain ⟨l0, hl0, rfl⟩ := open_blk (hval 0 23 v0 rfl rfl) h0
  obtain ⟨l1, hl1, rfl⟩ := open_blk (hval 1 23 v1 rfl rfl) h1
  clear hA0 hval0
  simp only [List.append_nil] at hW' hAk
  refine (De.parts_walk W l0 l1 hl0 hl1).mono fun e W' ⟨he, hs⟩ => ?_
  subst he
  exact ⟨_, rfl, law_post Try.laidOut hW' hAk (fun t ht => by
      rw [Try.params5] at ht
      simp at ht
      subst ht; exact ⟨by kernel_rfl, of_decide_eq_true (by kernel_rfl)⟩) rfl rfl rfl rfl (by kernel_rfl) Try.underlying4 (hs.toBelow (Nat.le_refl _) (fun _ x => x.elim))⟩

theorem deltaParts_holds : Rows.DeltaPartsSaid :=
  OpenClaim.holds_of_wide 5 Try.f5 rfl rfl rfl rfl rfl rfl rfl ⟨rfl, rfl, rfl, rfl, rfl⟩ rfl rfl rfl rfl rfl (by kernel_rfl) Try.func5 (by kernel_rfl)
    (of_decide_eq_true (by kernel_rfl)) (by unfold Func.isWrapper; rw [if_neg (of_decide_eq_false (by kernel_rfl))]; exact ⟨rfl, rfl⟩)
    (fun os started H enc _ => deltaParts_lifted os started H enc)
end Go.Proofs.Ytnlknnhibnfhcaa
