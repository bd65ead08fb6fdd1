/-
  sketch's laws: SketchAlike and SketchWindows, walked.
-/
import Derived.Test.YtddgkckgbmgghaaSkF
import Derived.Stop.BytesEq
namespace Go.Proofs.Ytddgkckgbmgghaa.Sk
open Go.RowKit Hn
set_option maxRecDepth 100000

set_option maxHeartbeats 1000000 in
theorem alike_walk (w : World) (f g : Nat → Nat) : Calls Try.prog 7 #[skV f, skV g] w fun e w' => e = .returned (.bool true) ∧ Stay (fun _ => False) w w' := by
  have h0 := QAt.new w 25 f
  have h1 := QAt.new (w.alloc (.cells (qC f).toArray 25)) 25 g
  rw [show (w.alloc (.cells (qC f).toArray 25)).heap.size = w.heap.size + 1 by simp] at h1
  have h0' := h0.stay0 (Stay.alloc _ (.cells (qC g).toArray 25))
  have hs := (Stay.alloc (X := fun _ => False) w (.cells (qC f).toArray 25)).trans (Stay.alloc (X := fun _ => False) _ (.cells (qC g).toArray 25))
  obtain ⟨w1, hw1⟩ : ∃ w1, (w.alloc (.cells (qC f).toArray 25)).alloc (.cells (qC g).toArray 25) = w1 := ⟨_, rfl⟩
  rw [hw1] at h1 h0' hs
  have W1 := Lib.hid hw1
  have H0 := Lib.hid h0'
  have H1 := Lib.hid h1
  have HS := Lib.hid hs
  clear h0 h1 h0' hs hw1
  unfold skV
  go_enter Try.func7, Try.ntmps7
  go_wp2_with (first
    | (rw [W1.out]; refine q_arr.load (by rfl) (.tmp 2) rfl w.heap.size rfl _ H0.out ?_)
    | (refine q_arr.load (by rfl) (.tmp 3) rfl (w.heap.size + 1) rfl _ H1.out ?_))
  refine (like_any w1 f g).mono ?_
  rintro e w2 ⟨rfl, s2⟩
  have H02 := Lib.hid (H0.out.stay0 s2)
  have H12 := Lib.hid (H1.out.stay0 s2)
  have HS2 := Lib.hid (HS.out.trans s2)
  clear s2
  go_wp2_with (first
    | (refine q_arr.load (by rfl) (.tmp 2) rfl w.heap.size rfl _ H02.out ?_)
    | (refine q_arr.load (by rfl) (.tmp 3) rfl (w.heap.size + 1) rfl _ H12.out ?_))
  refine (rlike_any w2 f g).mono ?_
  rintro e w3 ⟨rfl, s3⟩
  have HS3 := Lib.hid (HS2.out.trans s3)
  have hle := likeN_le f g 4
  generalize likeN f g 4 = m at *
  clear s3
  go_wp2_with fail
  refine (sure_any w3).mono ?_
  rintro e w4 ⟨rfl, s4⟩
  have HS4 := Lib.hid (HS3.out.trans s4)
  clear s4
  go_wp2
  go_ret
  exact ⟨rfl, HS4.out⟩

set_option maxHeartbeats 1000000 in
theorem windows_walk (w : World) (z : Int) (l : List UInt8) (x : Value) (hx : Slc w x l) (hlen : l.length ≤ 140737488355327) :
    Calls Try.prog 6 #[.int .i64 z, x] w fun e w' => e = .returned (.bool true) ∧ Stay (fun _ => False) w w' := by
  obtain ⟨i0, hi, hz0, hz1, hz2⟩ := info_parts info5
  have HI := Lib.hid hi
  have HZ0 := Lib.hid hz0
  have HZ1 := Lib.hid hz1
  have HZ2 := Lib.hid hz2
  have HX := Lib.hid hx
  clear hi hz0 hz1 hz2 hx
  go_enter Try.func6, Try.ntmps6
  go_wp2_with (at_builtin; refine wpList_append_slc rfl (.tmp 6) (.tmp 7) 32 rfl w.heap.size i0 Try.underlying32 HI.out HZ0.out HZ1.out HZ2.out (.slice none 0 0) x [] l rfl rfl (Owns.nil _ _) HX.out (by simp; omega) (Nat.le_refl _) ?_; intro v' w1 hown hgr hnn)
  have hst : Stay (fun _ => False) w w1 := Stay.grown hgr (fun k e => by cases e)
  rw [List.nil_append] at hown
  have HO := Lib.hid hown.slc
  have HS := Lib.hid hst
  clear hown hgr hnn hst
  refine (window_any z l v' w1 HO.out).mono ?_
  rintro e w2 ⟨rfl, s2⟩
  have HS2 := Lib.hid (HS.out.trans s2)
  have HO2 := Lib.hid (HO.out.stay0 s2)
  clear s2
  unfold u32V
  go_wp2_with fail
  refine (rwindow_any z l x w2 (HX.out.stay0 HS2.out) hlen).mono ?_
  rintro e w3 ⟨rfl, s3⟩
  have HS3 := Lib.hid (HS2.out.trans s3)
  have k1 := conv_slc (HO2.out.stay0 s3)
  have k2 := conv_slc (HX.out.stay0 HS3.out)
  unfold u32V
  unfold strV at k1 k2
  clear s3
  generalize winN (lowB z) l = m at *
  go_wp2_with fail
  refine (sure_any w3).mono ?_
  rintro e w4 ⟨rfl, s4⟩
  have HS4 := Lib.hid (HS3.out.trans s4)
  clear s4
  go_wp2
  go_ret
  exact ⟨rfl, HS4.out⟩
end Go.Proofs.Ytddgkckgbmgghaa.Sk
