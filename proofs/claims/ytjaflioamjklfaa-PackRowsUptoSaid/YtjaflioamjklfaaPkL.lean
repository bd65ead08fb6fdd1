/-
  pack's laws: a thing laid by the program.
-/
import Derived.Test.YtjaflioamjklfaaPkW
namespace Go.Proofs.Ytjaflioamjklfaa.Pk
open Go.RowKit
set_option maxRecDepth 100000

/-- A thing's cells: its kind, its number, its bytes, its print. -/
def thingC (k n : Int) (x : Value) (pr : List UInt8) : List Value := [.int .i64 k, .int .i64 n, x] ++ cellsB pr

/-- Which of the six a thing is. -/
def kindOf (k : Int) : Int := wrap64 ((IntKind.u64.wrap k).tmod 6)
theorem u64_range (k : Int) : 0 ≤ IntKind.u64.wrap k ∧ IntKind.u64.wrap k ≤ 18446744073709551615 := by
  have e : IntKind.u64.wrap k = k % 18446744073709551616 := by simp [IntKind.wrap, IntKind.bits, IntKind.signed]
  rw [e]
  omega
theorem kindOf_range (k : Int) : 0 ≤ kindOf k ∧ kindOf k < 6 := by
  have h := u64_range k
  unfold kindOf
  have e : (IntKind.u64.wrap k).tmod 6 = IntKind.u64.wrap k % 6 := Int.tmod_eq_emod_of_nonneg h.1
  rw [e]
  have h1 : 0 ≤ IntKind.u64.wrap k % 6 ∧ IntKind.u64.wrap k % 6 < 6 := by omega
  generalize IntKind.u64.wrap k % 6 = z at h1
  unfold wrap64
  omega

/-- A thing's bytes. -/
def thingB (k n : Int) (b pr : List UInt8) : List UInt8 :=
  if kindOf k = 0 then spellB (IntKind.u64.wrap n).toNat else if kindOf k = 1 then intB n else if kindOf k = 2 then boolB (decide (0 < n)) else if kindOf k = 3 ∨ kindOf k = 4 then bytesB b else pr

set_option maxHeartbeats 2000000 in
theorem lay_thing (base : Nat) (w : World) (p : Nat) (l : List UInt8) (k n : Int) (x : Value) (b pr : List UInt8) (h : WrAt (fun k => base ≤ k) w p l) (hx : Slc w x b) (hxb : 0 < b.length → ∀ k, x.ownBlock = some k → k < base) (hpr : pr.length = 32)
    (hn1 : -9223372036854775808 ≤ n) (hn2 : n ≤ 9223372036854775807) (hlen : l.length + b.length + 41 ≤ 140737488355328) :
    Calls Try.prog 7 #[.pointer (some ⟨p, 0, none⟩), .agg (thingC k n x pr).toArray] w fun e w' => e = .returned (.pointer (some ⟨p, 0, none⟩)) ∧ WrAt (fun k => base ≤ k) w' p (l ++ thingB k n b pr) ∧ Stay (fun k => base ≤ k) w w' := by
  have hb := heap_alloc_new w (.cells (thingC k n x pr).toArray 30)
  have hc0 := cell_of_row _ _ 0 _ _ _ hb
  have hc1 := cell_of_row _ _ 1 _ _ _ hb
  have hc2 := cell_of_row _ _ 2 _ _ _ hb
  rw [show (thingC k n x pr).toArray[0]? = some (.int .i64 k) by simp [thingC]] at hc0
  rw [show (thingC k n x pr).toArray[1]? = some (.int .i64 n) by simp [thingC]] at hc1
  rw [show (thingC k n x pr).toArray[2]? = some x by simp [thingC]] at hc2
  have hst0 : Stay (fun k => base ≤ k) w (w.alloc (.cells (thingC k n x pr).toArray 30)) := Stay.alloc _ _
  have hsf : Stay (fun _ => False) w (w.alloc (.cells (thingC k n x pr).toArray 30)) := Stay.alloc _ _
  have H := Lib.hid (h.stay0 hsf)
  have HX := Lib.hid (hx.stay0 hsf)
  have hcv := conv_slc (hx.stay0 hsf)
  unfold strV at hcv
  have HB := Lib.hid hb
  have hlt := h.lt
  have HXB := Lib.hid hxb
  obtain ⟨a0, c, rfl, _⟩ := id hx
  clear h hx hxb hb
  obtain ⟨hr0, hr1⟩ := kindOf_range k
  obtain ⟨hu0, hu1⟩ := u64_range n
  unfold thingB
  by_cases hk0 : kindOf k = 0
  · rw [if_pos hk0]
    unfold kindOf at hk0
    clear hr0 hr1 hcv
    go_enter Try.func7, Try.ntmps7
    go_wp2_with fail
    refine (uint_at' base _ p l (IntKind.u64.wrap n).toNat _ (by omega) H.out (by omega) (by omega)).mono ?_
    rintro e w2 ⟨rfl, hw2, hst2⟩
    go_wp2
    go_ret
    exact ⟨rfl, hw2, hst0.trans hst2⟩
  rw [if_neg hk0]
  by_cases hk1 : kindOf k = 1
  · rw [if_pos hk1]
    unfold kindOf at hk1
    clear hr0 hr1 hcv hk0
    go_enter Try.func7, Try.ntmps7
    go_wp2_with fail
    refine (int_base base _ p l n H.out hn1 hn2 (by omega)).mono ?_
    rintro e w2 ⟨rfl, hw2, hst2⟩
    go_wp2
    go_ret
    exact ⟨rfl, hw2, hst0.trans hst2⟩
  rw [if_neg hk1]
  by_cases hk2 : kindOf k = 2
  · rw [if_pos hk2]
    unfold kindOf at hk2
    clear hr0 hr1 hcv hk0 hk1
    go_enter Try.func7, Try.ntmps7
    go_wp2_with fail
    refine (bool_base base _ p l (decide (0 < n)) H.out (by omega)).mono ?_
    rintro e w2 ⟨rfl, hw2, hst2⟩
    go_wp2
    go_ret
    exact ⟨rfl, hw2, hst0.trans hst2⟩
  rw [if_neg hk2]
  by_cases hk3 : kindOf k = 3
  · rw [if_pos (.inl hk3)]
    unfold kindOf at hk3
    clear hr0 hr1 hk0 hk1 hk2
    go_enter Try.func7, Try.ntmps7
    go_wp2_with fail
    refine (wtext_base base _ p l b H.out (by omega)).mono ?_
    rintro e w2 ⟨rfl, hw2, hst2⟩
    go_wp2
    go_ret
    exact ⟨rfl, hw2, hst0.trans hst2⟩
  by_cases hk4 : kindOf k = 4
  · rw [if_pos (.inr hk4)]
    unfold kindOf at hk4
    clear hr0 hr1 hcv hk0 hk1 hk2 hk3
    go_enter Try.func7, Try.ntmps7
    go_wp2_with fail
    refine (wbytes_base base _ p l b _ H.out HX.out (fun h0 k e => .inl (HXB.out h0 k e)) (by omega)).mono ?_
    rintro e w2 ⟨rfl, hw2, hst2⟩
    go_wp2
    go_ret
    exact ⟨rfl, hw2, hst0.trans hst2⟩
  rw [if_neg (by rintro (e | e); exact hk3 e; exact hk4 e)]
  have hk5 : kindOf k = 5 := by omega
  unfold kindOf at hk5
  clear hr0 hr1 hcv hk0 hk1 hk2 hk3 hk4
  go_enter Try.func7, Try.ntmps7
  go_wp2_with (refine wpList_load_mid rfl 28 (.tmp 44) rfl w.heap.size 3 rfl 30 (thingC k n _ pr).toArray (cellsB pr).toArray (0, 0) _ HB.out Try.underlying28 rfl (info_prt_of hpr) (fun j hj => by rw [Nat.add_comm]; simp [thingC]) ?_)
  refine (wprint_base base _ p l pr hpr H.out (by omega)).mono ?_
  rintro e w2 ⟨rfl, hw2, hst2⟩
  go_wp2
  go_ret
  exact ⟨rfl, hw2, hst0.trans hst2⟩

end Go.Proofs.Ytjaflioamjklfaa.Pk
