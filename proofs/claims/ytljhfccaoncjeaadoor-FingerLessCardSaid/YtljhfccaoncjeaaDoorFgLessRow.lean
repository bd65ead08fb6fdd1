/-
  FingerLess answers true for every input, and each argument reads afterwards as it read before; drydock/keccak.path and errors.errorType stand as the program's text lays them (the card ties them).
-/
import Derived.Test.YtljhfccaoncjeaaDoorFgG
import Derived.Test.YtljhfccaoncjeaaDoorFgOpen
import Derived.Test.YtljhfccaoncjeaaDoorKeZ
import Derived.Test.YtljhfccaoncjeaaDoorOwn
import Derived.Test.YtljhfccaoncjeaaDoorCards
import Derived.Test.YtljhfccaoncjeaaDoorTie
import Derived.SevenTiedAt
namespace Go.Proofs.YtljhfccaoncjeaaDoor
open Go.ChangeShapes Go.WideShapes Go.ChangeAt Go.RowKit
set_option maxRecDepth 100000

theorem fingerLess_lifted (os : Os) (started : os.Started) (H : Type) (enc : TypeId × Value → H) :
    ReturnsInHanded {} Tryd.checked os 6 .any (fun w args => (Rows.fingerLessSpec.pre enc Tryd.prog Tryd.f6 [] false w args ∧ laidMetH Tryd.prog laidQ w) ∧ sizedMet enc Tryd.prog Tryd.f6 (OpenSpec.ofChange Rows.fingerLessSpec) false w args)
      (Rows.fingerLessSpec.post enc Tryd.prog Tryd.f6 false true false false) := by
  refine returnsInHanded_of_change_and (C := Tryd.checked) (X := fun w _ => laidMetH Tryd.prog laidQ w) (fun _ _ _ hh h => h.of_heap hh) Tryd.own started (by kernel_rfl) Tryd.func6
    (ChangeSpec.witness_at (enc := enc) (C := Tryd.checked) (os := os) (X := fun w _ => laidMetH Tryd.prog laidQ w) false (laidWorld os) #[.agg (cellsB (List.replicate 32 0)).toArray, .agg (cellsB (List.replicate 32 0)).toArray] 8 rfl (by kernel_rfl) (by kernel_rfl) (by kernel_rfl) (by kernel_rfl) (by kernel_rfl) (laidWorld_metQ os _)) ?_
  intro W base args ds gs before hval0 hW _ hsz hL _
  have hval : ∀ (j : Nat) t v, Tryd.f6.params[j]? = some t → args[j]? = some v → Value.okWide Tryd.prog W .any base t v := hval0
  have hW' := hW
  obtain ⟨p, q, hA0, hV0, rfl, hfz, hnd⟩ := hW
  have hA : DataW.TrodAll enc Tryd.prog W 0 (fun _ => true) true Tryd.f6.params.toList args.toList ds p := hA0
  have hAk := hA
  have hV : DataW.TrodVars enc Tryd.prog W (fun _ => true) [] gs q := hV0
  rw [Tryd.params6] at hA hval
  obtain ⟨v0, v1, d0, d1, p0, p1, rfl, rfl, rfl, h0, h1⟩ := trodAll_two hA
  obtain ⟨l0, hl0, rfl⟩ := open_prt (hval 0 25 v0 rfl rfl) h0
  obtain ⟨l1, hl1, rfl⟩ := open_prt (hval 1 25 v1 rfl rfl) h1
  obtain ⟨hg, he⟩ := both_of_laid hL
  obtain ⟨rfl, rfl⟩ : gs = [] ∧ q = [] := by
    cases gs with
    | nil => exact ⟨rfl, hV⟩
    | cons g r => exact absurd hV (by intro h; cases h)
  simp only [List.append_nil] at hW' hAk
  refine (Fg.less_walk W l0 l1 hl0 hl1 hg (path_lt hg) he).mono fun e W' ⟨he, hst⟩ => ?_
  subst he
  exact ⟨_, rfl, law_post Tryd.laidOut hW' hAk (fun t ht => by
      rw [Tryd.params6] at ht
      simp at ht
      subst ht; exact ⟨by kernel_rfl, of_decide_eq_true (by kernel_rfl)⟩) rfl rfl rfl rfl (by kernel_rfl) Tryd.underlying4 (hst.toBelow (Nat.le_refl _) (fun _ x => x.elim))⟩

theorem fingerLess_row : Rows.FingerLessSaid :=
  OpenClaim.holds_of_wide 6 Tryd.f6 rfl rfl rfl rfl rfl rfl rfl ⟨rfl, rfl, rfl, rfl, rfl⟩ rfl rfl rfl rfl rfl (by kernel_rfl) Tryd.func6 (by kernel_rfl)
    (of_decide_eq_true (by kernel_rfl)) (by unfold Func.isWrapper; rw [if_neg (of_decide_eq_false (by kernel_rfl))]; exact ⟨rfl, rfl⟩)
    (fun os started H enc _ => fingerLess_lifted os started H enc)

theorem fingerLess_holds : Rows.FingerLessCardSaid :=
  Claim7.holds_tied_plain_at .later [] [.handle, .data] true _ true
    fingerLess_row (fun _ h => by cases h) (by kernel_rfl) (fun _ h => by cases h) fingerLess_row_tie rfl ⟨rfl, rfl⟩ (by kernel_rfl) rfl
    (fun f fn hf hfn => by
      obtain rfl : f = 6 := Option.some.inj ((show Tryd.prog.funcNamed "drydock/drydocklaw06.FingerLess" = some 6 by kernel_rfl).symm.trans hf) |>.symm
      obtain rfl : fn = Tryd.f6 := (Option.some.inj (Tryd.func6.symm.trans hfn)).symm
      exact ⟨by kernel_rfl, fun j t ht => by
        rw [Tryd.params6] at ht
        have h3 : t = 25 := by
          rcases j with _ | _ | j
          · exact by simpa using ht.symm
          · exact by simpa using ht.symm
          · simp at ht
        subst h3
        exact (show Tryd.prog.wantsStandIn 25 = false by kernel_rfl)⟩)
    (by kernel_rfl)

end Go.Proofs.YtljhfccaoncjeaaDoor
