/-
  merge's laws: what All, New and the document's All answer, with an error or none.
-/
import Derived.Test.YtdfhjmodacjilaaDoorMgO
namespace Go.Proofs.YtdfhjmodacjilaaDoor.Mg
open Go.RowKit Go.Maps Me
set_option maxRecDepth 100000
set_option linter.unusedVariables false

theorem norm_norm (e : En) : norm (norm e) = norm e := by
  unfold norm
  by_cases h : e.g = true
  · rw [if_pos h]; rfl
  · rw [if_neg h, if_neg h]
theorem allN_norm {Ls : List (List En)} (h : ∀ l ∈ Ls, Sorted l) : ∀ e ∈ allN Ls, norm e = e := by
  intro e he
  obtain ⟨n, x, _, h1, _⟩ := (allN_tells Ls 0 h).frm e he
  rw [← h1, norm_norm]
theorem gone_v {e : En} (h : norm e = e) (hg : e.g = true) : e.v = [] := by
  unfold norm at h
  rw [if_pos hg] at h
  rw [← h]
theorem sumL_all {Ls : List (List En)} (h : sumL Ls ≤ 400) : ∀ L ∈ Ls, L.length ≤ 1000 := fun L hL => Nat.le_trans (sumL_at hL) (by omega)

/-- What comes of orders, or nothing where one of them is not in order; the error's number. -/
def resM (Ls : List (List En)) : List En := if ∀ L ∈ Ls, Sorted L then allN Ls else []
def resE (Ls : List (List En)) : Nat := if ∀ L ∈ Ls, Sorted L then 0 else 41
theorem resM_norm (Ls : List (List En)) : ∀ e ∈ resM Ls, norm e = e := by
  intro e he
  unfold resM at he
  split at he
  · rename_i h; exact allN_norm h e he
  · cases he
theorem resM_len (Ls : List (List En)) : (resM Ls).length ≤ sumL Ls := by
  unfold resM
  split
  · exact allN_len Ls
  · exact Nat.zero_le _
theorem errO_zero : errO 0 = .nilIface := rfl
theorem all_uni (w : World) (x : Value) (Ls : List (List En)) (d : Bool) (hx : ESs w x Ls) (hlen : Ls.length ≤ 1000) (hsz : sumL Ls ≤ 1000) :
    Calls Tryd.prog 8 #[x, .bool d] w fun e w' => ∃ v, e = .returned (.tuple #[v, errO (resE Ls)]) ∧ EnO w.heap.size w' v (keepL d (resM Ls)) ∧ Stay (fun _ => False) w w' := by
  refine (all_any w x Ls d hx hlen hsz).mono ?_
  rintro e w' ⟨hs, hc⟩
  rcases hc with ⟨h, v, rfl, ho⟩ | ⟨h, rfl⟩
  · exact ⟨v, by unfold resE; rw [if_pos h]; rfl, by unfold resM; rw [if_pos h]; exact ho, hs⟩
  · exact ⟨_, by unfold resE; rw [if_neg h]; rfl, by unfold resM; rw [if_neg h]; cases d <;> exact EnO.nil _ _, hs⟩
theorem rall_uni (w : World) (x : Value) (Ls : List (List En)) (d : Bool) (hx : ESs w x Ls) (hlen : Ls.length ≤ 1000) (hsz : sumL Ls ≤ 900) :
    Calls Tryd.prog 9 #[x, .bool d] w fun e w' => ∃ v, e = .returned (.tuple #[v, .int .i64 (resE Ls : Int)]) ∧ EnO w.heap.size w' v (keepL d (resM Ls)) ∧ Stay (fun _ => False) w w' := by
  refine (rall_any w x Ls d hx hlen hsz).mono ?_
  rintro e w' ⟨hs, hc⟩
  rcases hc with ⟨h, v, rfl, ho⟩ | ⟨h, rfl⟩
  · exact ⟨v, by unfold resE; rw [if_pos h]; rfl, by unfold resM; rw [if_pos h]; exact ho, hs⟩
  · exact ⟨_, by unfold resE; rw [if_neg h]; rfl, by unfold resM; rw [if_neg h]; cases d <;> exact EnO.nil _ _, hs⟩
end Go.Proofs.YtdfhjmodacjilaaDoor.Mg
