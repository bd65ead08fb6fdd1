/-
  TableBuilds answers true wherever what it reads is of the bulk that is said, and each argument reads afterwards as it read before; errors.errorType stands as the program's text lays it (the card ties it).
-/
import Derived.Test.YteogdihacohkfaaGreatDoorTbV
import Derived.Test.YteogdihacohkfaaGreatDoorTbW
import Derived.Test.YteogdihacohkfaaGreatDoorErrPk
import Derived.Test.YteogdihacohkfaaGreatDoorGaK
import Derived.Test.YteogdihacohkfaaGreatDoorCards
import Derived.Test.YteogdihacohkfaaGreatDoorTie
import Derived.SevenTiedAt
import Derived.OpenShut
import Derived.Deep.DeepHandedRow
import Derived.Lib.LaidTab
namespace Go.Proofs.YteogdihacohkfaaGreatDoor
open Go.ChangeShapes Go.WideShapes Go.ChangeAt Go.RowKit
set_option maxRecDepth 100000

theorem tableBuilds_contract (H : Type) (enc : TypeId × Value → H) (W : World) (base : Nat) (args : Array Value) (ds gs : List (DataW H)) (before : List MemPlace)
    (hval0 : ∀ (j : Nat) t v, Tryz.f3.params[j]? = some t → args[j]? = some v → Value.okWide Tryz.prog W .any base t v)
    (hW : DataW.Whole enc Tryz.prog Tryz.f3.params.toList Rows.tableBuildsSpec.vars false W args.toList ds gs before) (hk : Rows.uptoSmall H (ds ++ gs) = true)
    (hL : laidMetH Tryz.prog Pk.laidErr W) :
    Calls Tryz.prog 3 args W fun e W' => ∃ v, e = .returned v ∧ Rows.tableBuildsSpec.post enc Tryz.prog Tryz.f3 false true false false W args v W' := by
  have hval := hval0
  have hW' := hW
  obtain ⟨p, q, hA0, hV, rfl, hfz, hnd⟩ := hW
  have hA : DataW.TrodAll enc Tryz.prog W 0 (fun _ => true) true Tryz.f3.params.toList args.toList ds p := hA0
  have hAk := hA
  rw [Tryz.params3] at hA hval
  obtain ⟨v0, v1, d0, d1, p0, p1, rfl, rfl, rfl, h0, h1⟩ := trodAll_two hA
  obtain ⟨rfl, rfl⟩ := trodVars_none hV
  obtain ⟨a0, m0, c0, rfl⟩ := okWide_slice Tryz.underlying22 (hval 0 22 v0 rfl rfl)
  obtain ⟨L0, rfl, hx0, hn0, hb0⟩ := Tb.open_ens_b h0
  obtain ⟨x10, x11, rfl, wx10, wx11⟩ := Tb.open_size (hval 1 24 v1 rfl rfl) h1
  have hg := Pk.err_of_laid hL
  have hbulk : Rows.uptoBulkAll [d0, d1] ≤ 1048576 := by
    have h : Rows.uptoBulkAll ([d0, d1] ++ []) ≤ 1048576 := of_decide_eq_true hk
    simpa only [List.append_nil] using h
  have hq0 : Rows.uptoBulk d0 ≤ 1048576 := Nat.le_trans (Tb.bulk_part (List.mem_cons_self ..)) hbulk
  have hs0 : L0.length ≤ 300 → Me.sizeL L0 ≤ 1000000000 := fun h => by
    have h1 := Tb.size_le (b := 1048576) (fun e he => by have := hb0 e he; constructor <;> omega)
    have h2 : L0.length * (2 * 1048576) ≤ 300 * (2 * 1048576) := Nat.mul_le_mul_right _ h
    omega
  clear hA0 hval0 hval
  simp only [List.append_nil] at hW' hAk
  refine (Tb.builds_walk W _ L0 x10 x11 hg hx0 (by omega) hs0).mono fun e W' ⟨he, hst⟩ => ?_
  subst he
  exact ⟨_, rfl, law_post Tryz.laidOut hW' hAk (fun t ht => by
      rw [Tryz.params3] at ht
      simp at ht
      rcases ht with rfl | rfl <;> exact ⟨by kernel_rfl, of_decide_eq_true (by kernel_rfl)⟩) rfl rfl rfl rfl (by kernel_rfl) Tryz.underlying4 (hst.toBelow (Nat.le_refl _) (fun _ x => x.elim))⟩

theorem tableBuilds_reads (os : Os) {H : Type} (enc : TypeId × Value → H) : ∃ places, DataW.whole enc Tryz.prog ((Pk.laidWorld os).forCall (fun _ _ => 0) ⟨#[], #[.slice none 0 0, .agg #[.int .i64 0, .int .i64 0]], []⟩).memory Tryz.f3.params.toList Rows.tableBuildsSpec.vars false #[Value.slice none 0 0, Value.agg #[.int .i64 0, .int .i64 0]].toList 8 = some ([.nil, .agg [.lit (.int .i64 0), .lit (.int .i64 0)]], [], places) :=
  ⟨[], by kernel_rfl⟩

theorem tableBuilds_lifted (os : Os) (started : os.Started) (H : Type) (enc : TypeId × Value → H) (F : Stop.Interp) :
    ReturnsInHanded {} Tryz.checked os 3 .any ((Rows.OpenSpec.upto Rows.tableBuildsSpec).preRow enc Tryz.prog Tryz.f3 Rows.tableBuildsUptoRow.domain false Rows.tableBuildsUptoRow.laid) (((Rows.OpenSpec.upto Rows.tableBuildsSpec).at F).post enc Tryz.prog Tryz.f3 false true false false) := by
  obtain ⟨places, hx⟩ := tableBuilds_reads os enc
  refine returnsInHanded_of_row (C := Tryz.checked) (s := Rows.OpenSpec.upto Rows.tableBuildsSpec) Tryz.own started (by kernel_rfl) Tryz.func3
    (witness_row_at (enc := enc) (C := Tryz.checked) false (Pk.laidWorld os) #[.slice none 0 0, .agg #[.int .i64 0, .int .i64 0]] rfl (by kernel_rfl) (by kernel_rfl) (by kernel_rfl)
      (OpenSpec.preRow_of_cond 8 hx (by kernel_rfl) (fun k hk => by cases hk; kernel_rfl) (by kernel_rfl) (Pk.laidWorld_met os _))) ?_
  intro W base args ds gs before hval hW _ hcond _ hL _ _
  exact tableBuilds_contract H enc W base args ds gs before hval hW (hcond _ rfl) hL

theorem tableBuilds_upto : Rows.TableBuildsUptoSaid :=
  OpenClaim.holds_of_cond 3 Tryz.f3 rfl rfl rfl rfl rfl rfl rfl ⟨rfl, rfl, rfl, rfl, rfl⟩ rfl rfl rfl rfl rfl (by kernel_rfl) Tryz.func3 (by kernel_rfl)
    (of_decide_eq_true (by kernel_rfl)) (by unfold Func.isWrapper; rw [if_neg (of_decide_eq_false (by kernel_rfl))]; exact ⟨rfl, rfl⟩)
    (fun os started H enc _ F => by rw [OpenClaim.pre_eq_preRow]; exact tableBuilds_lifted os started H enc F)

theorem tableBuilds_holds : Rows.TableBuildsUptoCardSaid :=
  Claim7.holds_tied_plain_at .later [] _ _ _ _
    tableBuilds_upto (fun _ h => by cases h) (by kernel_rfl) (fun _ h => by cases h) tableBuildsUpto_row_tie rfl ⟨rfl, rfl⟩ (by kernel_rfl) rfl
    (fun f fn hf hfn => by
      obtain rfl : f = 3 := Option.some.inj ((show Tryz.prog.funcNamed "drydock/drydocklaw13.TableBuilds" = some 3 by kernel_rfl).symm.trans hf) |>.symm
      obtain rfl : fn = Tryz.f3 := (Option.some.inj (Tryz.func3.symm.trans hfn)).symm
      exact ⟨by kernel_rfl, fun j t ht => by
        rw [Tryz.params3] at ht
        have h3 : t = 22 ∨ t = 24 := by
          rcases j with _ | _ | j
          · exact .inl (by simpa using ht.symm)
          · exact .inr (by simpa using ht.symm)
          · simp at ht
        rcases h3 with rfl | rfl
        · exact (show Tryz.prog.wantsStandIn 22 = false by kernel_rfl)
        · exact (show Tryz.prog.wantsStandIn 24 = false by kernel_rfl)⟩)
    (by kernel_rfl)

end Go.Proofs.YteogdihacohkfaaGreatDoor
