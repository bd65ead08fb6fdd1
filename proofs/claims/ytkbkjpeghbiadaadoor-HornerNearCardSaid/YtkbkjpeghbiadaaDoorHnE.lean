/-
  horner: the contract of the document's Open.
-/
import Derived.Test.YtkbkjpeghbiadaaDoorHnD
namespace Go.Proofs.YtkbkjpeghbiadaaDoor.Hn
open Go.RowKit
set_option maxRecDepth 100000

/-- An error's number, and the bytes, 0 and none where there is none. -/
def codeB (b : List UInt8) : Nat := match openB b with | .error c => c | .ok _ => 0
def bodyB (b : List UInt8) : List UInt8 := match openB b with | .error _ => [] | .ok r => r
/-- What the document's Open hands back. -/
def ROpen (w : World) (b : List UInt8) (e : Ending) : Prop := ∃ v, e = .returned (.tuple #[v, .int .i64 (codeB b : Nat)]) ∧ Slc w v (bodyB b)

theorem seal_eq {b : List UInt8} {n : Nat} : (sealB (b.take n) = b) ↔ b.drop n = tailB (moreN 1 (b.take n)) := by
  unfold sealB
  constructor
  · intro h
    generalize moreN 1 (b.take n) = s at *
    have := List.take_append_drop n b
    have h2 : b.take n ++ tailB s = b.take n ++ b.drop n := by rw [h, this]
    exact (List.append_cancel_left h2).symm
  · intro h
    rw [← h, List.take_append_drop]

theorem ropen_short (x : Value) (b : List UInt8) (w : World) (hx : Slc w x b) (h : b.length < 4) :
    Calls Tryd.prog 8 #[x] w fun e w' => ROpen w' b e ∧ Stay (fun _ => False) w w' := by
  obtain ⟨a0, c0, rfl, _⟩ := hx
  have HB := Lib.hid (show openB b = .error 12 by unfold openB; rw [if_pos h])
  go_enter Tryd.func8, Tryd.ntmps8
  go_wp2
  go_ret2
  exact ⟨⟨_, by unfold codeB; rw [HB.out]; rfl, by unfold bodyB; rw [HB.out]; exact (Owns.nil 0 _).slc⟩, Stay.refl _ _⟩

theorem ropen_no {b : List UInt8} {n : Nat} {w : World} (hn : b.length = n + 4) (h : (!sealB (b.take n) == b) = true) : ROpen w b (.returned (.tuple #[.slice none 0 0, .int .i64 11])) := by
  have hE : ¬ b.drop n = tailB (moreN 1 (b.take n)) := by
    intro hE
    rw [← seal_eq] at hE
    simp [hE] at h
  have HB := (open_form hn).trans (if_neg hE)
  exact ⟨_, by unfold codeB; rw [HB]; rfl, by unfold bodyB; rw [HB]; exact (Owns.nil 0 _).slc⟩
theorem ropen_yes {b : List UInt8} {n : Nat} {w : World} {v : Value} (hn : b.length = n + 4) (h : (!sealB (b.take n) == b) = false) (hv : Slc w v (b.take n)) : ROpen w b (.returned (.tuple #[v, .int .i64 0])) := by
  have hE : b.drop n = tailB (moreN 1 (b.take n)) := by
    rw [← seal_eq]
    simpa using h
  have HB := (open_form hn).trans (if_pos hE)
  exact ⟨_, by unfold codeB; rw [HB]; rfl, by unfold bodyB; rw [HB]; exact hv⟩

set_option maxHeartbeats 1000000 in
theorem ropen_long (x : Value) (b : List UInt8) (w : World) (n : Nat) (hn : b.length = n + 4) (hx : Slc w x b) (hlen : (n : Int) ≤ 140737488355324) :
    Calls Tryd.prog 8 #[x] w fun e w' => ROpen w' b e ∧ Stay (fun _ => False) w w' := by
  have HX := Lib.hid hx
  obtain ⟨a0, c0, rfl, hr, _, hc0, hcm⟩ := id hx
  obtain ⟨ad, rfl, hcell⟩ := hr (by omega)
  have hfst := hx.first (k := n) (by omega)
  have htl : (b.take n).length = n := by rw [List.length_take]; omega
  have hcn : ¬ c0 = n := by omega
  have hcc : (n : Int) + 4 ≤ c0 := by omega
  have HF := Lib.hid hfst
  have HTL := Lib.hid htl
  have HN := Lib.hid hn
  rw [hn] at hx ⊢
  clear hfst hr hcell htl hc0
  have hconv := conv_slc (hx.stay0 (Stay.drew (w := w)))
  unfold strV at hconv
  have HXN := Lib.hid hx
  clear hx hn
  go_enter Tryd.func8, Tryd.ntmps8
  go_wp2_with fail
  go_region_with (go_at_call 10; refine (rseal_any _ (b.take n) _ (HF.out.stay0 Stay.drew) (by rw [HTL.out]; omega)).mono ?_; rintro e w1 ⟨v, rfl, how, hs1⟩; have hcv := conv_slc how.slc; have hcx := conv_slc (HXN.out.stay0 ((Stay.drew (w := w)).trans hs1)); have hT := (Stay.drew (X := fun _ => False) (w := w)).trans hs1; unfold strV at hcv hcx; clear how hs1)
  all_goals go_wp2
  all_goals
    go_ret2
    first
      | exact ⟨ropen_no HN.out (by assumption), hT⟩
      | exact ⟨ropen_yes HN.out (by assumption) (HF.out.stay0 hT), hT⟩

theorem ropen_any (x : Value) (b : List UInt8) (w : World) (hx : Slc w x b) (hlen : b.length ≤ 140737488355328) :
    Calls Tryd.prog 8 #[x] w fun e w' => ROpen w' b e ∧ Stay (fun _ => False) w w' := by
  by_cases h : b.length < 4
  · exact ropen_short x b w hx h
  · exact ropen_long x b w (b.length - 4) (by omega) hx (by omega)

end Go.Proofs.YtkbkjpeghbiadaaDoor.Hn
