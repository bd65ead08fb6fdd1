/-
  sketch's laws: what must come whatever the input is.
-/
import Derived.Test.YtddgkckgbmgghaaSkE
namespace Go.Proofs.Ytddgkckgbmgghaa.Sk
open Go.RowKit Hn
set_option maxRecDepth 100000

theorem SkS.one (w : World) (ty : TypeId) (f : Nat → Nat) : SkS (w.alloc (.cells (qC f).toArray ty)) (.slice (some ⟨w.heap.size, 0, none⟩) 1 1) 1 (fun _ => f) :=
  ⟨_, 1, rfl, Nat.le_refl _, by decide, fun _ => ⟨_, 0, rfl, fun i hi j hj => by
    obtain rfl : i = 0 := by omega
    rw [show 0 + 0 * 4 + j = j by omega]
    exact (QAt.new w ty f).c hj⟩⟩
theorem best_one (f : Nat → Nat) : bestN (fun _ => f) f 1 = 0 :=
  bestN_is (fun _ => f) f (n := 1) (i := 0) (by decide) (by show 0 < likeN f f 4; rw [likeN_self]; decide) (fun j _ => Nat.le_refl _) (fun j hj => by omega)

def zblk : List UInt8 := List.replicate 64 0
set_option maxHeartbeats 1000000 in
theorem sure_any (w : World) : Calls Try.prog 14 #[] w fun e w' => e = .returned (.bool true) ∧ Stay (fun _ => False) w w' := by
  go_enter Try.func14, Try.ntmps14
  go_wp2_with fail
  refine (of_any zblk w (by simp [zblk])).mono ?_
  rintro e w1 ⟨rfl, s1⟩
  generalize skN zblk = f
  have HA := Lib.hid (QAt.new w1 27 (fun _ => 0))
  have HS1 := Lib.hid s1
  clear s1
  go_wp2_with (first
    | (with_reducible refine q_sk.alloc rfl rfl ?_)
    | (refine q_sk.store rfl (.tmp 1) (.tmp 3) rfl w1.heap.size rfl _ f rfl HA.out ?_; intro w2 h2 s2
       have H2 := Lib.hid h2
       have HS2 := Lib.hid (HS1.out.trans (stay_seal (X := fun j => j = w1.heap.size) ((Stay.alloc _ _).trans s2) (fun j e => Nat.le_of_eq e.symm)))
       clear h2 s2)
    | (refine q_sk.load (by rfl) (.tmp 1) rfl w1.heap.size rfl _ H2.out ?_))
  refine (like_any w2 f f).mono ?_
  rintro e w3 ⟨rfl, s3⟩
  rw [likeN_self]
  have H3 := Lib.hid (H2.out.stay0 s3)
  have HS3 := Lib.hid (HS2.out.trans s3)
  clear s3
  have hone := SkS.one w3 27 f
  have hst4 : Stay (fun _ => False) w3 (w3.alloc (.cells (qC f).toArray 27)) := Stay.alloc _ _
  obtain ⟨w4, hw4⟩ : ∃ w4, w3.alloc (.cells #[.int .u32 (f 0 : Int), .int .u32 (f 1 : Int), .int .u32 (f 2 : Int), .int .u32 (f 3 : Int)] 27) = w4 := ⟨_, rfl⟩
  rw [show w3.alloc (.cells (qC f).toArray 27) = w4 from hw4] at hone hst4
  have HO := Lib.hid hone
  have H4 := Lib.hid (H3.out.stay0 hst4)
  have HS4 := Lib.hid (HS3.out.trans hst4)
  have W4 := Lib.hid hw4
  clear hone hst4 hw4
  go_wp2_with (first
    | (refine q_sk.load (by rfl) (.tmp 1) rfl w1.heap.size rfl _ H3.out ?_; unfold skV qC)
    | (rw [W4.out]; refine q_sk.load (by rfl) (.tmp 1) rfl w1.heap.size rfl _ H4.out ?_))
  refine (best_any w4 _ 1 (fun _ => f) f HO.out).mono ?_
  rintro e w5 ⟨rfl, s5⟩
  rw [best_one]
  have H5 := Lib.hid (H4.out.stay0 s5)
  have HS5 := Lib.hid (HS4.out.trans s5)
  clear s5
  go_wp2_with (first
    | (refine q_sk.load (by rfl) (.tmp 1) rfl w1.heap.size rfl _ H5.out ?_))
  refine (best_any w5 _ 0 (fun _ => f) f (SkS.nil _ _)).mono ?_
  rintro e w6 ⟨rfl, s6⟩
  rw [show bestN (fun _ => f) f 0 = -1 from rfl]
  have HS6 := Lib.hid (HS5.out.trans s6)
  clear s6
  go_wp2
  go_ret
  exact ⟨rfl, HS6.out⟩
end Go.Proofs.Ytddgkckgbmgghaa.Sk
