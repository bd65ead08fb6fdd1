/-
  pack: a nil writer lays nothing; the law's lay by it.
-/
import Derived.Test.YtjaflioamjklfaaPkThs
namespace Go.Proofs.Ytjaflioamjklfaa.Pk
open Go.RowKit
set_option maxRecDepth 100000

theorem uint_nil_at (n : Int) (w : World) (h0 : 0 ≤ n) (hn : n ≤ 18446744073709551615) : Calls Try.prog 19 #[.pointer none, .int .u64 n] w fun e w' => e = .returned (.pointer none) ∧ Stay (fun _ => False) w w' := by
  obtain ⟨m, rfl⟩ : ∃ m : Nat, n = m := ⟨n.toNat, by omega⟩
  exact uint_nil m w hn

set_option maxHeartbeats 2000000 in
theorem int_nil (n : Int) (w : World) (h1 : -9223372036854775808 ≤ n) (h2 : n ≤ 9223372036854775807) :
    Calls Try.prog 20 #[.pointer none, .int .i64 n] w fun e w' => e = .returned (.pointer none) ∧ Stay (fun _ => False) w w' := by
  by_cases hn : n < 0
  · obtain ⟨m, rfl⟩ : ∃ m : Nat, n = -1 - m := ⟨(-1 - n).toNat, by omega⟩
    go_enter Try.func20, Try.ntmps20
    go_wp2_with fail
    refine (bool_nil true w).mono ?_
    rintro e w1 ⟨rfl, hst1⟩
    go_wp2_with fail
    refine (uint_nil_at _ w1 (by omega) (by omega)).mono ?_
    rintro e w2 ⟨rfl, hst2⟩
    go_wp2
    go_ret
    exact ⟨rfl, hst1.trans hst2⟩
  · obtain ⟨m, rfl⟩ : ∃ m : Nat, n = m := ⟨n.toNat, by omega⟩
    clear hn h1
    go_enter Try.func20, Try.ntmps20
    go_wp2_with fail
    refine (bool_nil false w).mono ?_
    rintro e w1 ⟨rfl, hst1⟩
    go_wp2_with fail
    refine (uint_nil_at _ w1 (by omega) (by omega)).mono ?_
    rintro e w2 ⟨rfl, hst2⟩
    go_wp2
    go_ret
    exact ⟨rfl, hst1.trans hst2⟩

theorem wbytes_nil (w : World) (a0 : Option Addr) (n c : Nat) (hn : n ≤ 140737488355328) :
    Calls Try.prog 23 #[.pointer none, .slice a0 n c] w fun e w' => e = .returned (.pointer none) ∧ Stay (fun _ => False) w w' := by
  go_enter Try.func23, Try.ntmps23
  go_wp2_with fail
  refine (uint_nil_at _ w (by omega) (by omega)).mono ?_
  rintro e w1 ⟨rfl, hst1⟩
  go_wp2_with fail
  refine (lay_nil _ _).mono ?_
  rintro e w2 ⟨rfl, rfl⟩
  go_wp2
  go_ret
  exact ⟨rfl, hst1⟩

theorem wtext_nil (w : World) (b : List UInt8) (hb : b.length ≤ 140737488355328) :
    Calls Try.prog 22 #[.pointer none, strV b] w fun e w' => e = .returned (.pointer none) ∧ Stay (fun _ => False) w w' := by
  obtain ⟨cap, w1, hcv, hslc, hst, hsz⟩ := conv_txt w b hb
  have HST := Lib.hid hst
  clear hslc hst
  unfold strV at hcv ⊢
  go_enter Try.func22, Try.ntmps22
  go_wp2_with fail
  refine (wbytes_nil w1 _ _ _ hb).mono ?_
  rintro e w2 ⟨rfl, hst2⟩
  go_wp2
  go_ret
  exact ⟨rfl, HST.out.trans hst2⟩

theorem wprint_nil (w : World) (b : List UInt8) :
    Calls Try.prog 24 #[.pointer none, prtV b] w fun e w' => e = .returned (.pointer none) ∧ Stay (fun _ => False) w w' := by
  unfold prtV
  go_enter Try.func24, Try.ntmps24
  go_wp2_with fail
  refine (lay_nil _ _).mono ?_
  rintro e w2 ⟨rfl, rfl⟩
  go_wp2
  go_ret
  exact ⟨rfl, Stay.alloc _ _⟩

set_option maxHeartbeats 2000000 in
theorem lay_thing_nil (w : World) (t : Th) (h : t.Ok w) (hlen : t.b.length ≤ 140737488355328) :
    Calls Try.prog 7 #[.pointer none, .agg t.cells.toArray] w fun e w' => e = .returned (.pointer none) ∧ Stay (fun _ => False) w w' := by
  obtain ⟨k, n, x, b, pr⟩ := t
  obtain ⟨hn1, hn2, hx, hpr⟩ := h
  simp only at hn1 hn2 hx hpr hlen
  unfold Th.cells
  simp only
  have hb := heap_alloc_new w (.cells (thingC k n x pr).toArray 30)
  have hc0 := cell_of_row _ _ 0 _ _ _ hb
  have hc1 := cell_of_row _ _ 1 _ _ _ hb
  have hc2 := cell_of_row _ _ 2 _ _ _ hb
  rw [show (thingC k n x pr).toArray[0]? = some (.int .i64 k) by simp [thingC]] at hc0
  rw [show (thingC k n x pr).toArray[1]? = some (.int .i64 n) by simp [thingC]] at hc1
  rw [show (thingC k n x pr).toArray[2]? = some x by simp [thingC]] at hc2
  have hsf : Stay (fun _ => False) w (w.alloc (.cells (thingC k n x pr).toArray 30)) := Stay.alloc _ _
  have hcv := conv_slc (hx.stay0 hsf)
  unfold strV at hcv
  have HB := Lib.hid hb
  obtain ⟨a0, c, rfl, _⟩ := id hx
  clear hx hb
  obtain ⟨hu0, hu1⟩ := u64_range n
  rcases six k with hk | hk | hk | hk | hk | hk
  · unfold kindOf at hk
    clear hcv
    go_enter Try.func7, Try.ntmps7
    go_wp2_with fail
    refine (uint_nil_at _ _ hu0 hu1).mono ?_
    rintro e w2 ⟨rfl, hst2⟩
    go_wp2
    go_ret
    exact ⟨rfl, hsf.trans hst2⟩
  · unfold kindOf at hk
    clear hcv
    go_enter Try.func7, Try.ntmps7
    go_wp2_with fail
    refine (int_nil n _ hn1 hn2).mono ?_
    rintro e w2 ⟨rfl, hst2⟩
    go_wp2
    go_ret
    exact ⟨rfl, hsf.trans hst2⟩
  · unfold kindOf at hk
    clear hcv
    go_enter Try.func7, Try.ntmps7
    go_wp2_with fail
    refine (bool_nil (decide (0 < n)) _).mono ?_
    rintro e w2 ⟨rfl, hst2⟩
    go_wp2
    go_ret
    exact ⟨rfl, hsf.trans hst2⟩
  · unfold kindOf at hk
    go_enter Try.func7, Try.ntmps7
    go_wp2_with fail
    refine (wtext_nil _ b hlen).mono ?_
    rintro e w2 ⟨rfl, hst2⟩
    go_wp2
    go_ret
    exact ⟨rfl, hsf.trans hst2⟩
  · unfold kindOf at hk
    clear hcv
    go_enter Try.func7, Try.ntmps7
    go_wp2_with fail
    refine (wbytes_nil _ _ _ _ hlen).mono ?_
    rintro e w2 ⟨rfl, hst2⟩
    go_wp2
    go_ret
    exact ⟨rfl, hsf.trans hst2⟩
  · unfold kindOf at hk
    clear hcv
    go_enter Try.func7, Try.ntmps7
    go_wp2_with (refine wpList_load_mid rfl 28 (.tmp 44) rfl w.heap.size 3 rfl 30 (thingC k n _ pr).toArray (cellsB pr).toArray (0, 0) _ HB.out Try.underlying28 rfl (info_prt_of hpr) (fun j hj => by rw [Nat.add_comm]; simp [thingC]) ?_)
    refine (wprint_nil _ pr).mono ?_
    rintro e w2 ⟨rfl, hst2⟩
    go_wp2
    go_ret
    exact ⟨rfl, hsf.trans hst2⟩

end Go.Proofs.Ytjaflioamjklfaa.Pk
