/-
  sketch: the sum of a window, and the document's.
-/
import Derived.Test.YtddgkckgbmgghaaSkA
namespace Go.Proofs.Ytddgkckgbmgghaa.Sk
open Go.RowKit Hn
set_option maxRecDepth 100000

/-- The last eight bits of a number. -/
def lowB (z : Int) : UInt8 := UInt8.ofNat (z % 256).toNat
theorem lowB_nat (z : Int) : IntKind.u8.wrap z = ((lowB z).toNat : Int) := by
  rw [IntKind.wrap_u8]
  unfold lowB
  rw [UInt8.toNat_ofNat']
  omega
theorem lowB_small {i : Nat} (h : i < 256) : (lowB (i : Int)).toNat = i := by
  unfold lowB
  rw [UInt8.toNat_ofNat']
  omega
/-- The sum of a window, as a part counts it. -/
def winN (c : UInt8) (l : List UInt8) : Nat := moreN 1 (c :: l)
theorem winN_more (c : UInt8) (l : List UInt8) : moreN (moreN 1 [c]) l = winN c l := (moreN_app 1 [c] l).symm
theorem winN_lt (c : UInt8) (l : List UInt8) : winN c l < 2147483647 := moreN_lt 1 _

theorem window_any (z : Int) (l : List UInt8) (x : Value) (w : World) (hx : Slc w x l) :
    Calls Try.prog 12 #[.int .i64 z, x] w fun e w' => e = .returned (u32V (winN (lowB z) l)) ∧ Stay (fun _ => False) w w' := by
  have h1 : Slc (w.alloc (.cells #[.int .u8 ((lowB z).toNat : Int)] 5)) (.slice (some ⟨w.heap.size, 0, none⟩) 1 1) [lowB z] := slc_block w [lowB z] 5 (0, 0) (by show 1 ≤ 9223372036854775807; decide)
  have H1 := Lib.hid h1
  have HX := Lib.hid (hx.alloc (.cells #[.int .u8 ((lowB z).toNat : Int)] 5))
  have hz := lowB_nat z
  have hm := moreN_lt 1 [lowB z]
  clear h1 hx
  go_enter Try.func12, Try.ntmps12
  go_wp2_with fail
  refine (sum_any _ _ _ H1.out).mono ?_
  rintro e w' ⟨rfl, rfl⟩
  unfold u32V
  go_wp2_with fail
  refine (more_any (moreN 1 [lowB z]) l x _ (by omega) HX.out).mono ?_
  rintro e w' ⟨rfl, rfl⟩
  unfold u32V
  go_wp2
  go_ret
  exact ⟨by rw [winN_more]; rfl, Stay.alloc _ _⟩

theorem rwindow_any (z : Int) (l : List UInt8) (x : Value) (w : World) (hx : Slc w x l) (hlen : l.length ≤ 140737488355327) :
    Calls Try.prog 13 #[.int .i64 z, x] w fun e w' => e = .returned (u32V (winN (lowB z) l)) ∧ Stay (fun _ => False) w w' := by
  obtain ⟨i0, hi, hz0, hz1, hz2⟩ := info_parts info5
  have HI := Lib.hid hi
  have HZ0 := Lib.hid hz0
  have HZ1 := Lib.hid hz1
  have HZ2 := Lib.hid hz2
  have h1 : Owns w.heap.size (w.alloc (.cells #[.int .u8 ((lowB z).toNat : Int)] 5)) (.slice (some ⟨w.heap.size, 0, none⟩) 1 1) [lowB z] := Owns.one w (lowB z) _ (Nat.le_refl _) _ rfl
  have H1 := Lib.hid h1
  have HX := Lib.hid (hx.alloc (.cells #[.int .u8 ((lowB z).toNat : Int)] 5))
  have hz := lowB_nat z
  clear h1 hx hi hz0 hz1 hz2
  go_enter Try.func13, Try.ntmps13
  go_wp2_with (at_builtin; refine wpList_append_slc rfl (.tmp 9) (.tmp 10) 32 rfl w.heap.size i0 Try.underlying32 HI.out HZ0.out HZ1.out HZ2.out _ x [lowB z] l rfl rfl H1.out HX.out (by simp; omega) (by simp) ?_; intro v' w1 hown hgr hnn)
  have hst : Stay (fun _ => False) w w1 := stay_seal (X := fun k => w.heap.size ≤ k) ((Stay.alloc _ _).trans (Stay.grown (X := fun k => w.heap.size ≤ k) hgr (fun k e => (H1.out.lt k e).1))) (fun k hk => hk)
  refine (rsum_any _ _ _ hown.slc).mono ?_
  rintro e w' ⟨rfl, rfl⟩
  unfold u32V
  go_wp2
  go_ret
  exact ⟨rfl, hst⟩
end Go.Proofs.Ytddgkckgbmgghaa.Sk
