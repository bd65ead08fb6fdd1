/-
  HornerLong's and HornerSums' walks.
-/
import Derived.Test.YtkbkjpeghbiadaaHnA
namespace Go.Proofs.Ytkbkjpeghbiadaa.Hn
open Go.RowKit
set_option maxRecDepth 100000

theorem long_walk (a n m : Nat) (w : World) (ha : (a : Int) ≤ 4294967295) (x y : Int) (hx : (IntKind.u64.wrap x).tmod 1073741824 = (n : Int)) (hy : (IntKind.u64.wrap y).tmod 1073741824 = (m : Int)) (hn : (n : Int) < 1073741824) (hm : (m : Int) < 1073741824) :
    Calls Try.prog 4 #[.int .u32 a, .int .i64 x, .int .i64 y] w fun e w' => e = .returned (.bool true) ∧ Stay (fun _ => False) w w' := by
  have h1 := joinN_lt a 1 n
  have HJ := Lib.hid (join_join a n m)
  have HO := Lib.hid (join_one a n)
  have hJ1 := joinN_lt a 1 n
  go_enter Try.func4, Try.ntmps4
  go_wp2_with fail
  refine (join_any a 1 n _ ha (by decide) (by omega)).mono ?_
  rintro e w' ⟨rfl, rfl⟩
  unfold u32V
  go_wp2_with fail
  refine (join_any (joinN a 1 n) 1 m _ (by omega) (by decide) (by omega)).mono ?_
  rintro e w' ⟨rfl, rfl⟩
  rw [HJ.out]
  unfold u32V
  go_wp2_with fail
  have e : ((n : Int) + (m : Int)) = ((n + m : Nat) : Int) := by omega
  rw [e]
  clear e
  refine (join_any a 1 (n + m) _ ha (by decide) (by omega)).mono ?_
  rintro e w' ⟨rfl, rfl⟩
  unfold u32V
  go_wp2_with fail
  refine (join_any 1 a n _ (by decide) ha (by omega)).mono ?_
  rintro e w' ⟨rfl, rfl⟩
  rw [HO.out]
  unfold u32V
  go_wp2_with fail
  refine (sure_any _).mono ?_
  rintro e w1 ⟨rfl, hs1⟩
  go_wp2
  go_ret
  exact ⟨rfl, hs1⟩

theorem sums_walk (s : Nat) (b : List UInt8) (x : Value) (w : World) (hs : (s : Int) ≤ 4294967295) (hx : Slc w x b) :
    Calls Try.prog 3 #[.int .u32 s, x] w fun e w' => e = .returned (.bool true) ∧ Stay (fun _ => False) w w' := by
  obtain ⟨a0, cap, rfl, _⟩ := id hx
  have HX := Lib.hid hx
  clear hx
  by_cases hl : 20000 < b.length
  · go_enter Try.func3, Try.ntmps3
    go_wp2_with fail
    refine (sure_any _).mono ?_
    rintro e w1 ⟨rfl, hs1⟩
    go_wp2
    go_ret
    exact ⟨rfl, hs1⟩
  · go_enter Try.func3, Try.ntmps3
    go_wp2_with fail
    refine (sum_any b _ _ HX.out).mono ?_
    rintro e w' ⟨rfl, rfl⟩
    go_wp2_with fail
    refine (rsum_any b _ _ HX.out).mono ?_
    rintro e w' ⟨rfl, rfl⟩
    unfold u32V
    go_wp2_with fail
    refine (more_any s b _ _ hs HX.out).mono ?_
    rintro e w' ⟨rfl, rfl⟩
    unfold u32V
    go_wp2_with fail
    refine (rmore_any s b _ _ hs HX.out).mono ?_
    rintro e w' ⟨rfl, rfl⟩
    unfold u32V
    go_wp2_with fail
    refine (sure_any _).mono ?_
    rintro e w1 ⟨rfl, hs1⟩
    go_wp2
    go_ret
    exact ⟨rfl, hs1⟩

end Go.Proofs.Ytkbkjpeghbiadaa.Hn
