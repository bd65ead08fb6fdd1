/-
  keccak's laws: what must come whatever the input is; KeccakTexts.
-/
import Derived.Test.YtdfklhlkefamlaaDoorKeV
import Derived.Test.YtdfklhlkefamlaaDoorKeT
import Derived.Test.YtdfklhlkefamlaaDoorClass
import Derived.Stop.BytesEq
import Derived.Lib.SlBytesConst
namespace Go.Proofs.YtdfklhlkefamlaaDoor.Ke
open Go.RowKit
set_option maxRecDepth 100000

theorem size_u8 (w : World) : (sizeOf 5).run Tryd.prog w = .ok 1 w := by
  obtain ⟨i0, hi, hz0, hz1, hz2⟩ := info_parts info5
  simp [sizeOf, typeInfo, hi, hz1]
theorem eq_prt (w : World) (p q : List UInt8) (hp : p.length = 32) (hq : q.length = 32) : (Op.equalIn 10000 25 (arrV p) (arrV q)).run Tryd.prog w = .ok (p == q) w :=
  run_equalIn_bytes (P := Tryd.prog) w 9998 25 5 32 Tryd.underlying25 Tryd.underlying5 size_u8 p q hp hq
theorem length_sumK (b : List UInt8) : (sumK b).length = 32 := by simp [sumK, fromK, outK]

def abcA : ByteArray := ⟨#[51, 97, 57, 56, 53, 100, 97, 55, 52, 102, 101, 50, 50, 53, 98, 50, 48, 52, 53, 99, 49, 55, 50, 100, 54, 98, 100, 51, 57, 48, 98, 100, 56, 53, 53, 102, 48, 56, 54, 101, 51, 101, 57, 100, 53, 50, 53, 98, 52, 54, 98, 102, 101, 50, 52, 53, 49, 49, 52, 51, 49, 53, 51, 50]⟩
def nilA : ByteArray := ⟨#[97, 55, 102, 102, 99, 54, 102, 56, 98, 102, 49, 101, 100, 55, 54, 54, 53, 49, 99, 49, 52, 55, 53, 54, 97, 48, 54, 49, 100, 54, 54, 50, 102, 53, 56, 48, 102, 102, 52, 100, 101, 52, 51, 98, 52, 57, 102, 97, 56, 50, 100, 56, 48, 97, 52, 98, 56, 48, 102, 56, 52, 51, 52, 97]⟩
theorem abc_str : strV (textK (sumK [97, 98, 99])) = .string abcA := by rw [a_text]; rfl
theorem nil_str : strV (textK (sumK [])) = .string nilA := by rw [n_text]; rfl

theorem sure_any (w : World) (hp : PathAt w) (hg : 1 < w.heap.size) :
    Calls Tryd.prog 8 #[] w fun e w' => e = .returned (.bool true) ∧ Stay (fun _ => False) w w' := by
  have HP := Lib.hid hp
  have HG := Lib.hid hg
  clear hp hg
  have kc := fun (w : World) (C : Array Value) (n c : Nat) => Lib.run_convert_bytes_const (P := Tryd.prog) w 22 5 C n c Tryd.underlying22 Tryd.underlying5
  have h1 : Stay (fun _ => False) w (w.alloc (.cells #[.int .u8 97, .int .u8 98, .int .u8 99] 5 (3, 4))) := Stay.alloc _ _
  have HS := Lib.hid (show Slc (w.alloc (.cells #[.int .u8 97, .int .u8 98, .int .u8 99] 5 (3, 4))) (.slice (some ⟨w.heap.size, 0, none⟩) 3 3) [97, 98, 99] from slc_block w [97, 98, 99] 5 (3, 4) (by decide))
  have HA1 := Lib.hid h1
  clear h1
  go_enter Tryd.func8, Tryd.ntmps8
  go_wp2_with fail
  refine (ksum_any _ _ [97, 98, 99] HS.out (HP.out.stay HA1.out (fun x => x)) (by have := HG.out; simp; omega)).mono ?_
  rintro e w1 ⟨rfl, s1⟩
  have HS1 := Lib.hid (HA1.out.trans s1)
  clear s1
  go_wp2_with fail
  refine (text_any w1 _ (length_sumK _)).mono ?_
  rintro e w2 ⟨rfl, s2⟩
  have HS2 := Lib.hid (HS1.out.trans s2)
  clear s2
  rw [abc_str]
  unfold abcA
  go_wp2_with fail
  refine (ksum_any w2 _ [] ⟨none, 0, rfl, fun h => by simp at h, fun _ => rfl, Nat.le_refl _, by decide⟩ (HP.out.stay HS2.out (fun x => x)) (by have := HG.out; have := HS2.out.size; omega)).mono ?_
  rintro e w3 ⟨rfl, s3⟩
  have HS3 := Lib.hid (HS2.out.trans s3)
  clear s3
  go_wp2_with fail
  refine (text_any w3 _ (length_sumK _)).mono ?_
  rintro e w4 ⟨rfl, s4⟩
  have HS4 := Lib.hid (HS3.out.trans s4)
  clear s4
  rw [nil_str]
  unfold nilA
  go_wp2
  go_ret
  exact ⟨rfl, HS4.out⟩

theorem texts_walk (w : World) (h : List UInt8) (hl : h.length = 32) (hp : PathAt w) (hg : 1 < w.heap.size) :
    Calls Tryd.prog 7 #[.agg (cellsB h).toArray] w fun e w' => e = .returned (.bool true) ∧ Stay (fun _ => False) w w' := by
  have HP := Lib.hid hp
  have HG := Lib.hid hg
  have HL := Lib.hid hl
  clear hp hg hl
  go_enter Tryd.func7, Tryd.ntmps7
  go_wp2
  obtain ⟨w1, hw1⟩ : ∃ w1, w.alloc (.cells (cellsB h).toArray 25) = w1 := ⟨_, rfl⟩
  have HB := Lib.hid (show BAt w1 w.heap.size 25 h from hw1 ▸ BAt.new w _ h)
  have HST := Lib.hid (show Stay (fun _ => False) w w1 from hw1 ▸ Stay.alloc _ _)
  rw [hw1]
  clear hw1
  obtain ⟨D, hDd⟩ : ∃ D : World → Prop, D = Stay (fun _ => False) w1 := ⟨_, rfl⟩
  have HD := Lib.hid (show ∀ W, D W → Stay (fun _ => False) w1 W by intro W h; rw [hDd] at h; exact h)
  have HDm := Lib.hid (show ∀ W, Stay (fun _ => False) w1 W → D W by intro W h; rw [hDd]; exact h)
  clear hDd
  have HN0 := Lib.hid (HDm.out w1.drew Stay.drew)
  have k1 := Lib.hid (fun i : InC D => arr_32.run_load HL.out (HB.out.stay (HD.out _ i.h) (fun x => x)))
  have H1 := Lib.hid (show ∀ W, D W → Calls Tryd.prog 11 #[arrV h] W fun e w' => e = .returned (strV (textK h)) ∧ D w' from fun W hW => (text_any W h HL.out).mono fun e w' ⟨h1, h2⟩ => ⟨h1, HDm.out _ ((HD.out W hW).trans h2)⟩)
  have H2 := Lib.hid (show ∀ W, D W → Calls Tryd.prog 12 #[arrV h] W fun e w' => e = .returned (strV (textK h)) ∧ D w' from fun W hW => (rtext_any W h HL.out).mono fun e w' ⟨h1, h2⟩ => ⟨h1, HDm.out _ ((HD.out W hW).trans h2)⟩)
  have H3 := Lib.hid (show ∀ W, D W → Calls Tryd.prog 8 #[] W fun e w' => e = .returned (.bool true) ∧ D w' from fun W hW => (sure_any W (HP.out.stay (HST.out.trans (HD.out W hW)) (fun x => x)) (by have := HG.out; have := (HST.out.trans (HD.out W hW)).size; omega)).mono fun e w' ⟨h1, h2⟩ => ⟨h1, HDm.out _ ((HD.out W hW).trans h2)⟩)
  unfold strV at H1 H2
  haveI : Nonempty (InC D) := ⟨⟨_, HN0.out⟩⟩
  refine wp_region_class D HN0.out (by kernel_rfl) (by kernel_rfl) ?_
  refine quiet_load rfl 25 (.tmp 1) rfl ⟨w.heap.size, 0, none⟩ rfl (arrV h) k1.out ?_
  go_frame
  repeat (go_big_quiet_step ((first
    | with_reducible exact calls_class H1.out
    | with_reducible exact calls_class H2.out
    | with_reducible exact calls_class H3.out)))
  refine quiet_load rfl 25 (.tmp 1) rfl ⟨w.heap.size, 0, none⟩ rfl (arrV h) k1.out ?_
  go_frame
  repeat (go_big_quiet_step ((first
    | with_reducible exact calls_class H1.out
    | with_reducible exact calls_class H2.out
    | with_reducible exact calls_class H3.out)))
  refine wpQuiet_nil ?_
  rintro W ⟨i, rfl⟩
  have hst := HD.out _ i.h
  clear k1
  generalize i.w = w9 at *
  go_wp2
  go_ret
  exact ⟨rfl, HST.out.trans hst⟩
end Go.Proofs.YtdfklhlkefamlaaDoor.Ke
