/-
  pack's laws: a thing laid by the document.
-/
import Derived.Test.YtjaflioamjklfaaPkRefZ
namespace Go.Proofs.Ytjaflioamjklfaa.Pk
open Go.RowKit
set_option maxRecDepth 100000

set_option maxHeartbeats 2000000 in
theorem laid_thing (w : World) (y : Value) (l : List UInt8) (k n : Int) (x : Value) (b pr : List UInt8) (hy : Slc w y l) (hx : Slc w x b) (hpr : pr.length = 32)
    (hn1 : -9223372036854775808 ≤ n) (hn2 : n ≤ 9223372036854775807) (hlen : l.length + b.length + 41 ≤ 140737488355328) :
    Calls Try.prog 8 #[y, .agg (thingC k n x pr).toArray] w fun e w' => ∃ v, e = .returned v ∧ Owns w.heap.size w' v (l ++ thingB k n b pr) ∧ Stay (fun _ => False) w w' := by
  have hb := heap_alloc_new w (.cells (thingC k n x pr).toArray 30)
  have hc0 := cell_of_row _ _ 0 _ _ _ hb
  have hc1 := cell_of_row _ _ 1 _ _ _ hb
  have hc2 := cell_of_row _ _ 2 _ _ _ hb
  rw [show (thingC k n x pr).toArray[0]? = some (.int .i64 k) by simp [thingC]] at hc0
  rw [show (thingC k n x pr).toArray[1]? = some (.int .i64 n) by simp [thingC]] at hc1
  rw [show (thingC k n x pr).toArray[2]? = some x by simp [thingC]] at hc2
  have hsf : Stay (fun _ => False) w (w.alloc (.cells (thingC k n x pr).toArray 30)) := Stay.alloc _ _
  have H := Lib.hid (hy.stay0 hsf)
  have hzz := hsf.size
  have HX := Lib.hid (hx.stay0 hsf)
  have hcv := conv_slc (hx.stay0 hsf)
  unfold strV at hcv
  have HB := Lib.hid hb
  obtain ⟨a0, c, rfl, _⟩ := id hx
  clear hy hx hb
  obtain ⟨hr0, hr1⟩ := kindOf_range k
  obtain ⟨hu0, hu1⟩ := u64_range n
  unfold thingB
  by_cases hk0 : kindOf k = 0
  · rw [if_pos hk0]
    unfold kindOf at hk0
    clear hr0 hr1 hcv
    go_enter Try.func8, Try.ntmps8
    go_wp2_with fail
    refine (refuint_at _ y l (IntKind.u64.wrap n).toNat _ (by omega) H.out (by omega) (by omega)).mono ?_
    rintro e w2 ⟨v, rfl, how, hst2⟩
    go_wp2
    go_ret
    exact ⟨v, rfl, how.base (fun k e => by have h1 := (how.lt k e).1; omega), hsf.trans hst2⟩
  rw [if_neg hk0]
  by_cases hk1 : kindOf k = 1
  · rw [if_pos hk1]
    unfold kindOf at hk1
    clear hr0 hr1 hcv hk0
    go_enter Try.func8, Try.ntmps8
    go_wp2_with fail
    refine (refint_any _ y l n H.out hn1 hn2 (by omega)).mono ?_
    rintro e w2 ⟨v, rfl, how, hst2⟩
    go_wp2
    go_ret
    exact ⟨v, rfl, how.base (fun k e => by have h1 := (how.lt k e).1; omega), hsf.trans hst2⟩
  rw [if_neg hk1]
  by_cases hk2 : kindOf k = 2
  · rw [if_pos hk2]
    unfold kindOf at hk2
    clear hr0 hr1 hcv hk0 hk1
    go_enter Try.func8, Try.ntmps8
    go_wp2_with fail
    refine (refbool_any _ y l (decide (0 < n)) H.out (by omega)).mono ?_
    rintro e w2 ⟨v, rfl, how, hst2⟩
    go_wp2
    go_ret
    exact ⟨v, rfl, how.base (fun k e => by have h1 := (how.lt k e).1; omega), hsf.trans hst2⟩
  rw [if_neg hk2]
  by_cases hk3 : kindOf k = 3
  · rw [if_pos (.inl hk3)]
    unfold kindOf at hk3
    clear hr0 hr1 hk0 hk1 hk2
    go_enter Try.func8, Try.ntmps8
    go_wp2_with fail
    refine (reftext_any _ y l b H.out (by omega)).mono ?_
    rintro e w2 ⟨v, rfl, how, hst2⟩
    go_wp2
    go_ret
    exact ⟨v, rfl, how.base (fun k e => by have h1 := (how.lt k e).1; omega), hsf.trans hst2⟩
  by_cases hk4 : kindOf k = 4
  · rw [if_pos (.inr hk4)]
    unfold kindOf at hk4
    clear hr0 hr1 hcv hk0 hk1 hk2 hk3
    go_enter Try.func8, Try.ntmps8
    go_wp2_with fail
    refine (refbytes_any _ y _ l b H.out HX.out (by omega)).mono ?_
    rintro e w2 ⟨v, rfl, how, hst2⟩
    go_wp2
    go_ret
    exact ⟨v, rfl, how.base (fun k e => by have h1 := (how.lt k e).1; omega), hsf.trans hst2⟩
  rw [if_neg (by rintro (e | e); exact hk3 e; exact hk4 e)]
  have hk5 : kindOf k = 5 := by omega
  unfold kindOf at hk5
  clear hr0 hr1 hcv hk0 hk1 hk2 hk3 hk4
  go_enter Try.func8, Try.ntmps8
  go_wp2_with (refine wpList_load_mid rfl 28 (.tmp 44) rfl w.heap.size 3 rfl 30 (thingC k n _ pr).toArray (cellsB pr).toArray (0, 0) _ HB.out Try.underlying28 rfl (info_prt_of hpr) (fun j hj => by rw [Nat.add_comm]; simp [thingC]) ?_)
  refine (refprint_any _ y l pr H.out hpr (by omega)).mono ?_
  rintro e w2 ⟨v, rfl, how, hst2⟩
  go_wp2
  go_ret
  exact ⟨v, rfl, how.base (fun k e => by have h1 := (how.lt k e).1; omega), hsf.trans hst2⟩

end Go.Proofs.Ytjaflioamjklfaa.Pk
