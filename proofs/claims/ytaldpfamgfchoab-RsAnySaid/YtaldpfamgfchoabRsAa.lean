/-
  rs's laws: long, twins, lists.
-/
import Derived.Test.YtaldpfamgfchoabRsT
namespace Go.Proofs.Ytaldpfamgfchoab.Rs
open Go.ChangeShapes Go.WideShapes Go.ChangeAt Go.RowKit Go.Deep Gf
set_option maxRecDepth 100000

/-- Are there too many bytes, or too many rows? -/
def longB (n : Nat) (L : Nat → Nat) : Bool := !(decide (n ≤ 65) && decide (sumN L n ≤ 4000))
theorem longB_false {n : Nat} {L : Nat → Nat} (h : longB n L = false) : n ≤ 65 ∧ sumN L n ≤ 4000 := by
  unfold longB at h
  simpa using h
theorem longB_true {n t : Nat} {L : Nat → Nat} (ht : t < n) (h : 64 < t ∨ 4000 < sumN L (t + 1)) : longB n L = true := by
  unfold longB
  rcases h with h | h
  · have : ¬ n ≤ 65 := by omega
    simp [this]
  · have h1 := sumN_le L (n := n) (t := t + 1) (by omega)
    have : ¬ sumN L n ≤ 4000 := by omega
    simp [this]
theorem longB_of {n : Nat} {L : Nat → Nat} (h1 : n ≤ 65) (h2 : sumN L n ≤ 4000) : longB n L = false := by unfold longB; simp [h1, h2]

set_option maxHeartbeats 2000000 in
theorem lists_same (w : World) (x y : Value) (n : Nat) (L : Nat → Nat) (M : Nat → Nat → UInt8) (hx : SM (fun _ => False) w x n L M) (hy : SM (fun _ => False) w y n L M) :
    Calls Try.prog 9 #[x, y] w fun e w' => e = .returned (.bool true) ∧ Stay (fun _ => False) w w' := by
  obtain ⟨a0, c, rfl, hnc, hc⟩ := hx.form
  obtain ⟨a1, c1, rfl, _⟩ := hy.form
  have q0 : (n : Int) ≤ 9223372036854775807 := by omega
  have q9 : ((n : Int) != (n : Int)) = false := by simp
  have HX := Lib.hid hx
  have HY := Lib.hid hy
  clear hx hy hnc hc
  go_enter Try.func9, Try.ntmps9
  go_wp2
  go_loopw [5] (fun i wr => ∃ t : Nat, t ≤ n ∧ i = .int .i64 (t : Int) ∧ Stay (fun _ => False) w wr) (fun i _ => n - (intOf i).toNat)
  case atStart => exact ⟨0, by omega, rfl, Stay.refl _ _⟩
  case round =>
    obtain ⟨t, ht, rfl, hst⟩ := hrel
    by_cases hlt : t < n
    · have q1 : (t : Int) < (n : Int) := by omega
      obtain ⟨b, o, ak, ck, rfl, cR, sR, _⟩ := HX.out.row hlt
      obtain ⟨b1, o1, ak1, ck1, rfl, cR1, sR1, _⟩ := HY.out.row hlt
      have hst2 := hst.trans (Stay.drew (X := fun _ => False))
      have k1 := (cR.stay hst2).now
      have k2 := (cR1.stay hst2).now
      have z1 : ∀ W0, Stay (fun _ => False) wr W0 → _ := fun W0 h => conv_slc ((sR.stay hst).stay h).now
      have z2 : ∀ W0, Stay (fun _ => False) wr W0 → _ := fun W0 h => conv_slc ((sR1.stay hst).stay h).now
      have y1 := z1 _ Stay.drew
      have y2 := z2 _ Stay.drew
      have HST := Lib.hid hst
      have HT := Lib.hid hlt
      obtain ⟨S, hS⟩ : ∃ S, S = strV (lf (L t) (M t)) := ⟨_, rfl⟩
      rw [← hS] at y1 y2
      have hst' := hS
      unfold strV at hst'
      obtain ⟨ba, hba⟩ : ∃ ba : ByteArray, ba = ⟨(lf (L t) (M t)).toArray⟩ := ⟨_, rfl⟩
      rw [← hba] at hst'
      subst hst'
      clear hst hlt cR sR cR1 sR1 hst2 z1 z2 hS hba
      go_wp2
      go_region_held3 (fun W => W.cell? ⟨b, o + t, none⟩ = some (.slice ak (L t) ck) ∧ W.cell? ⟨b1, o1 + t, none⟩ = some (.slice ak1 (L t) ck1) ∧ (convert 24 9 (.slice ak (L t) ck)).run Try.prog W = .ok (.string ba) W ∧ (convert 24 9 (.slice ak1 (L t) ck1)).run Try.prog W = .ok (.string ba) W) (first | go_keep | exact ⟨k1, k2, y1, y2⟩) (fail)
      clear k1 k2 y1 y2
      go_wp2
      have ht := HT.out
      first
        | exact ⟨⟨t + 1, by omega, by go_num, HST.out.trans Stay.drew⟩, by simp [intOf]; omega⟩
        | (go_round
           case rel => exact ⟨t + 1, by omega, by go_num, HST.out.trans Stay.drew⟩
           case measure => simp [intOf]; omega)
    · obtain rfl : t = n := by omega
      have HST := Lib.hid hst
      clear hst
      go_wp2
      go_ret
      exact ⟨rfl, HST.out⟩
end Go.Proofs.Ytaldpfamgfchoab.Rs
