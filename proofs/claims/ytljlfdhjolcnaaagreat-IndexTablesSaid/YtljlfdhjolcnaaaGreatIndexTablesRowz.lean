/-
  IndexTables answers true for every input, and each argument reads afterwards as it read before. No condition.
-/
import Derived.Test.YtljlfdhjolcnaaaGreatIxTablesz
import Derived.Test.YtljlfdhjolcnaaaGreatIxOpenz
import Derived.Test.YtljlfdhjolcnaaaGreatLawz
import Derived.JoinedOf
import Derived.ChangeVars
import Derived.SizedLaws
namespace Go.Proofs.YtljlfdhjolcnaaaGreat
open Go.ChangeShapes Go.WideShapes Go.ChangeAt Go.RowKit
set_option maxRecDepth 100000

theorem indexTables_lifted (os : Os) (started : os.Started) (H : Type) (enc : TypeId × Value → H) :
    ReturnsInHanded {} Tryz.checked os 5 .any (Rows.indexTablesSpec.pre6 enc Tryz.prog Tryz.f5 Rows.indexTablesRow.domain false) (Rows.indexTablesSpec.post enc Tryz.prog Tryz.f5 false true false false) := by
  refine returnsInHanded_of_change_sized (C := Tryz.checked) Tryz.own started (by kernel_rfl) Tryz.func5
    (ChangeSpec.witness6 (enc := enc) (C := Tryz.checked) false ⟨#[], #[.agg #[.int .i64 0, .int .i64 0, .int .i64 0, .int .i64 0], .slice none 0 0], []⟩ 8 (by kernel_rfl) (by kernel_rfl) (by kernel_rfl) (by kernel_rfl)) ?_
  intro W base args ds gs before hval0 hW _ hsz _
  have hval : ∀ (j : Nat) t v, Tryz.f5.params[j]? = some t → args[j]? = some v → Value.okWide Tryz.prog W .any base t v := hval0
  have hW' := hW
  obtain ⟨p, q, hA0, hV, rfl, hfz, hnd⟩ := hW
  have hA : DataW.TrodAll enc Tryz.prog W 0 (fun _ => true) true Tryz.f5.params.toList args.toList ds p := hA0
  have hAk := hA
  rw [Tryz.params5] at hA hval
  obtain ⟨v0, v1, d0, d1, p0, p1, rfl, rfl, rfl, h0, h1⟩ := trodAll_two hA
  obtain ⟨rfl, rfl⟩ := trodVars_none hV
  obtain ⟨x00, x01, x02, x03, rfl, wx00, wx01, wx02, wx03⟩ := Ix.open_cfg (hval 0 23 v0 rfl rfl) h0
  obtain ⟨a1, m1, c1, rfl⟩ := okWide_slice Tryz.underlying24 (hval 1 24 v1 rfl rfl)
  obtain ⟨L1, rfl, hx1, hw1⟩ := Ix.open_acts h1
  have hw1 := hw1 (Me.weights_each hsz (j := 1) (by rw [Tryz.params5]; rfl) rfl)
  clear hA0 hval0
  simp only [List.append_nil] at hW' hAk
  refine (Ix.tables_walk W _ _ _ _ _ L1 hx1 hw1).mono fun e W' ⟨he, hs⟩ => ?_
  subst he
  exact ⟨_, rfl, law_post Tryz.laidOut hW' hAk (fun t ht => by
      rw [Tryz.params5] at ht
      simp at ht
      rcases ht with rfl | rfl <;> exact ⟨by kernel_rfl, of_decide_eq_true (by kernel_rfl)⟩) rfl rfl rfl rfl (by kernel_rfl) Tryz.underlying4 (hs.toBelow (Nat.le_refl _) (fun _ x => x.elim))⟩

theorem indexTables_holds : Rows.IndexTablesSaid :=
  OpenClaim.holds_of_wide 5 Tryz.f5 rfl rfl rfl rfl rfl rfl rfl ⟨rfl, rfl, rfl, rfl, rfl⟩ rfl rfl rfl rfl rfl (by kernel_rfl) Tryz.func5 (by kernel_rfl)
    (of_decide_eq_true (by kernel_rfl)) (by unfold Func.isWrapper; rw [if_neg (of_decide_eq_false (by kernel_rfl))]; exact ⟨rfl, rfl⟩)
    (fun os started H enc _ => indexTables_lifted os started H enc)
end Go.Proofs.YtljlfdhjolcnaaaGreat
