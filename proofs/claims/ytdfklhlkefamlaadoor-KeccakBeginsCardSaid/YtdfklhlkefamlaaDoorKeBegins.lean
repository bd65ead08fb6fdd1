/-
  KeccakBegins, walked.
-/
import Derived.Test.YtdfklhlkefamlaaDoorKeM
import Derived.Test.YtdfklhlkefamlaaDoorKeW
namespace Go.Proofs.YtdfklhlkefamlaaDoor.Ke
open Go.RowKit
set_option maxRecDepth 100000

theorem outK_take (f : St) (i k : Nat) : (outK f (i + k)).take i = outK f i := by
  unfold outK
  rw [← List.map_take, List.take_range, Nat.min_eq_left (by omega)]

set_option maxHeartbeats 2000000 in
theorem begins_walk (w : World) (x : Value) (b : List UInt8) (z1 z2 : Int) (hx : Slc w x b) (hp : PathAt w) (hg : 1 < w.heap.size) :
    Calls Tryd.prog 6 #[x, .int .i64 z1, .int .i64 z2] w fun e w' => e = .returned (.bool true) ∧ Stay (fun _ => False) w w' := by
  obtain ⟨I, hI⟩ : ∃ I : Nat, IntKind.u64.wrap z1 % 500 = (I : Int) := ⟨(IntKind.u64.wrap z1 % 500).toNat, by rw [wrap_u64]; omega⟩
  obtain ⟨K, hK⟩ : ∃ K : Nat, IntKind.u64.wrap z2 % 500 = (K : Int) := ⟨(IntKind.u64.wrap z2 % 500).toNat, by rw [wrap_u64]; omega⟩
  have i1 : (I : Int) < 500 := by omega
  have k1 : (K : Int) < 500 := by omega
  have t1 : (IntKind.u64.wrap z1).tmod 500 = (I : Int) := by rw [← hI, Int.tmod_eq_emod_of_nonneg]; rw [wrap_u64]; omega
  have t2 : (IntKind.u64.wrap z2).tmod 500 = (K : Int) := by rw [← hK, Int.tmod_eq_emod_of_nonneg]; rw [wrap_u64]; omega
  have HX := Lib.hid hx
  have HP := Lib.hid hp
  have HG := Lib.hid hg
  obtain ⟨a0, c0, rfl, _⟩ := id hx
  clear hx hp hg
  by_cases hlt : 2000 < b.length
  · have q0 : (2000 : Int) < (b.length : Int) := by omega
    clear hlt
    go_enter Tryd.func6, Tryd.ntmps6
    go_wp2_with fail
    refine (sure_any w HP.out HG.out).mono ?_
    rintro e w1 ⟨rfl, s1⟩
    go_wp2
    go_ret
    exact ⟨rfl, s1⟩
  · have q0 : ¬ (2000 : Int) < (b.length : Int) := by omega
    clear hlt
    go_enter Tryd.func6, Tryd.ntmps6
    go_wp2_with fail
    refine (shake_any w _ b I (by omega) HX.out HP.out HG.out).mono ?_
    rintro e w1 ⟨v1, rfl, ho1, s1⟩
    have hl1 : (fromK b 31 I).length = I := by simp [fromK, outK]
    obtain ⟨a1, c1, rfl⟩ := ho1.form
    rw [hl1] at ho1 ⊢
    have HO1 := Lib.hid ho1
    have HS1 := Lib.hid s1
    have HL1 := Lib.hid hl1
    clear ho1 s1 hl1 hI hK t1 t2
    unfold errK
    rw [if_pos rfl]
    go_wp2_with fail
    rw [← Int.natCast_add]
    refine (shake_any w1 _ b (I + K) (by omega) (HX.out.stay0 HS1.out) (HP.out.stay HS1.out (fun x => x)) (by have := HG.out; have := HS1.out.size; omega)).mono ?_
    rintro e w2 ⟨v2, rfl, ho2, s2⟩
    have hl2 : (fromK b 31 (I + K)).length = I + K := by simp [fromK, outK]
    obtain ⟨a2, c2, rfl⟩ := ho2.form
    rw [hl2] at ho2 ⊢
    obtain ⟨a2', c2', e2, hr2, hn2, hc2, hm2⟩ := id ho2.slc
    simp only [Value.slice.injEq] at e2
    obtain ⟨rfl, -, rfl⟩ := e2
    rw [hl2] at hc2
    have hy : Slc w2 (.slice a2 I c2) ((fromK b 31 (I + K)).take I) := Slc.first (by rw [hl2]; exact ho2.slc) (by rw [hl2]; omega)
    have HY := Lib.hid hy
    have HXX := Lib.hid (HO1.out.slc.stay0 s2)
    have HST := Lib.hid (HS1.out.trans s2)
    have HCC := Lib.hid (show I ≤ c2 by omega)
    have hic : (I : Int) ≤ (c2 : Int) := by omega
    clear ho2 s2 hl2 hr2 hn2 hc2 hm2 hy
    unfold errK
    rw [if_pos rfl]
    go_wp2_with fail
    obtain ⟨D, hDd⟩ : ∃ D : World → Prop, D = Stay (fun _ => False) w2 := ⟨_, rfl⟩
    have HD := Lib.hid (show ∀ W, D W → Stay (fun _ => False) w2 W by intro W h; rw [hDd] at h; exact h)
    have HDm := Lib.hid (show ∀ W, Stay (fun _ => False) w2 W → D W by intro W h; rw [hDd]; exact h)
    clear hDd
    have HN0 := Lib.hid (HDm.out w2.drew Stay.drew)
    have k2 : ∀ i : InC D, _ := fun i : InC D => conv_slc (HXX.out.stay0 (HD.out _ i.h))
    have k3 : ∀ i : InC D, _ := fun i : InC D => conv_slc (HY.out.stay0 (HD.out _ i.h))
    rw [show (fromK b 31 (I + K)).take I = fromK b 31 I from outK_take _ I K] at k3
    unfold strV at k2 k3
    have H3 := Lib.hid (show ∀ W, D W → Calls Tryd.prog 8 #[] W fun e w' => e = .returned (.bool true) ∧ D w' from fun W hW => (sure_any W (HP.out.stay (HST.out.trans (HD.out W hW)) (fun x => x)) (by have := HG.out; have := (HST.out.trans (HD.out W hW)).size; omega)).mono fun e w' ⟨h1, h2⟩ => ⟨h1, HDm.out _ ((HD.out W hW).trans h2)⟩)
    haveI : Nonempty (InC D) := ⟨⟨_, HN0.out⟩⟩
    refine wp_region_class D HN0.out (by kernel_rfl) (by kernel_rfl) ?_
    repeat (go_big_quiet_step ((with_reducible exact calls_class H3.out)))
    refine wpQuiet_nil ?_
    rintro W ⟨i, rfl⟩
    have hst := HD.out _ i.h
    clear k2 k3
    generalize i.w = w9 at *
    go_wp2
    go_ret
    exact ⟨rfl, HST.out.trans hst⟩
end Go.Proofs.YtdfklhlkefamlaaDoor.Ke
