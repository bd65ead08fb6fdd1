/-
  KeccakShakes, walked.
-/
import Derived.Test.YtdfklhlkefamlaaDoorKeY
import Derived.Test.YtdfklhlkefamlaaDoorKeW
import Derived.Test.YtdfklhlkefamlaaDoorNum
namespace Go.Proofs.YtdfklhlkefamlaaDoor.Ke
open Go.RowKit
set_option maxRecDepth 100000

theorem numK (c : Nat) (w : World) (hg : ErrCell w) : Calls Tryd.prog 15 #[errK c] w fun e w' => e = .returned (.int .i64 (c : Int)) ∧ Stay (fun _ => False) w w' := by
  unfold errK
  by_cases h : c = 0
  · subst h
    exact num_nil w
  · rw [if_neg h]
    exact num_errno (c : Int) w hg
theorem ErrCell.stay0 {w w' : World} (h : ErrCell w) (hs : Stay (fun _ => False) w w') : ErrCell w' := hs.cell h (fun x => x)

set_option maxHeartbeats 2000000 in
theorem shakes_walk (w : World) (x : Value) (b : List UInt8) (n : Int) (hx : Slc w x b) (hp : PathAt w) (hg : 1 < w.heap.size) (he : ErrCell w) :
    Calls Tryd.prog 4 #[x, .int .i64 n] w fun e w' => e = .returned (.bool true) ∧ Stay (fun _ => False) w w' := by
  have HX := Lib.hid hx
  have HP := Lib.hid hp
  have HG := Lib.hid hg
  have HE := Lib.hid he
  obtain ⟨a0, c0, rfl, _⟩ := id hx
  clear hx hp hg he
  have HSURE := Lib.hid (fun (W : World) (hs : Stay (fun _ => False) w W) => sure_any W (HP.out.stay hs (fun x => x)) (Nat.lt_of_lt_of_le HG.out hs.size))
  by_cases hlt : 3000 < b.length
  · have q0 : (3000 : Int) < (b.length : Int) := by omega
    clear hlt
    go_enter Tryd.func4, Tryd.ntmps4
    go_wp2_with fail
    refine (HSURE.out w (Stay.refl _ _)).mono ?_
    rintro e w1 ⟨rfl, s1⟩
    go_wp2
    go_ret
    exact ⟨rfl, s1⟩
  have q0 : ¬ (3000 : Int) < (b.length : Int) := by omega
  have HLN := Lib.hid (show b.length ≤ 1048576 by omega)
  clear hlt
  by_cases hmid : 3000 < n ∧ n ≤ 1048576
  · obtain ⟨q1, q2⟩ := hmid
    go_enter Tryd.func4, Tryd.ntmps4
    go_wp2_with fail
    refine (HSURE.out w (Stay.refl _ _)).mono ?_
    rintro e w1 ⟨rfl, s1⟩
    go_wp2
    go_ret
    exact ⟨rfl, s1⟩
  have hnil : ∀ W : World, Slc W (.slice none 0 0) [] := fun W => (Owns.nil 0 W).slc
  by_cases hlow : n < 0
  · have q1 : ¬ 3000 < n := by omega
    clear hmid
    have k1 := fun W : World => conv_slc (hnil W)
    unfold strV at k1
    clear hnil
    have HK1 := Lib.hid k1
    clear k1
    go_enter Tryd.func4, Tryd.ntmps4
    go_wp2_with fail
    refine (shake_low w _ n hlow).mono ?_
    rintro e w1 ⟨rfl, rfl⟩
    go_wp2_with fail
    refine (rshake_low w _ n hlow).mono ?_
    rintro e w1 ⟨rfl, rfl⟩
    have k1 := HK1.out
    go_wp2_with fail
    refine (numK 1 w HE.out).mono ?_
    rintro e w1 ⟨rfl, s1⟩
    go_wp2_with fail
    refine (HSURE.out w1 s1).mono ?_
    rintro e w2 ⟨rfl, s2⟩
    have hst := s1.trans s2
    go_wp2
    go_ret
    exact ⟨rfl, hst⟩
  by_cases hhigh : 1048576 < n
  · have q1 : 3000 < n := by omega
    have q2 : ¬ n ≤ 1048576 := by omega
    clear hmid
    have k1 := fun W : World => conv_slc (hnil W)
    unfold strV at k1
    clear hnil
    have HK1 := Lib.hid k1
    clear k1
    go_enter Tryd.func4, Tryd.ntmps4
    go_wp2_with fail
    refine (shake_high w _ n hhigh).mono ?_
    rintro e w1 ⟨rfl, rfl⟩
    go_wp2_with fail
    refine (rshake_high w _ n hhigh).mono ?_
    rintro e w1 ⟨rfl, rfl⟩
    have k1 := HK1.out
    go_wp2_with fail
    refine (numK 2 w HE.out).mono ?_
    rintro e w1 ⟨rfl, s1⟩
    go_wp2_with fail
    refine (HSURE.out w1 s1).mono ?_
    rintro e w2 ⟨rfl, s2⟩
    have hst := s1.trans s2
    go_wp2
    go_ret
    exact ⟨rfl, hst⟩
  have q1 : ¬ 3000 < n := by omega
  obtain ⟨m, rfl⟩ := Int.eq_ofNat_of_zero_le (show 0 ≤ n by omega)
  have HM := Lib.hid (show m ≤ 1048576 by omega)
  clear hmid hnil hlow hhigh
  have q1' : ¬ 3000 < ((m : Nat) : Int) := q1
  go_enter Tryd.func4, Tryd.ntmps4
  go_wp2_with fail
  refine (shake_any w _ b m HM.out HX.out HP.out HG.out).mono ?_
  rintro e w1 ⟨v1, rfl, ho1, s1⟩
  have HO1 := Lib.hid ho1
  have HS1 := Lib.hid s1
  clear ho1 s1
  go_wp2_with fail
  refine (rshake_any w1 _ b m HM.out (HX.out.stay0 HS1.out) HLN.out).mono ?_
  rintro e w2 ⟨v2, rfl, ho2, s2⟩
  have k1 := conv_slc (HO1.out.slc.stay0 s2)
  have k2 := conv_slc ho2.slc
  have HS2 := Lib.hid (HS1.out.trans s2)
  unfold strV at k1 k2
  clear ho2 s2
  go_wp2_with fail
  refine (numK 0 w2 (ErrCell.stay0 HE.out HS2.out)).mono ?_
  rintro e w3 ⟨rfl, s3⟩
  have HS3 := Lib.hid (HS2.out.trans s3)
  clear s3
  go_wp2_with fail
  refine (HSURE.out w3 HS3.out).mono ?_
  rintro e w4 ⟨rfl, s4⟩
  have hst := HS3.out.trans s4
  go_wp2
  go_ret
  exact ⟨rfl, hst⟩
end Go.Proofs.YtdfklhlkefamlaaDoor.Ke
