/-
  pack: what the writer lays, where what it may turn are the blocks of any set that holds all new ones.
-/
import Derived.Test.YtjaflioamjklfaaPkThs
namespace Go.Proofs.Ytjaflioamjklfaa.Pk
open Go.RowKit
set_option maxRecDepth 100000

/-- All new blocks are of Y. -/
def Cl (Y : Nat → Prop) (w : World) : Prop := ∀ k, w.heap.size ≤ k → Y k
theorem Cl.stay {X Y : Nat → Prop} {w w' : World} (h : Cl Y w) (hs : Stay X w w') : Cl Y w' := fun k hk => h k (Nat.le_trans hs.size hk)

theorem uintY (Y : Nat → Prop) (w : World) (p : Nat) (l : List UInt8) (n : Nat) (m : Int) (hm : m = (n : Int)) (h : WrAt Y w p l) (hY : Cl Y w) (hn : (n : Int) ≤ 18446744073709551615) (hlen : l.length + 9 ≤ 140737488355328) :
    Calls Try.prog 19 #[.pointer (some ⟨p, 0, none⟩), .int .u64 m] w fun e w' => e = .returned (.pointer (some ⟨p, 0, none⟩)) ∧ WrAt Y w' p (l ++ spellB n) ∧ Stay Y w w' := by
  subst hm
  exact (uint_any _ w p l n h hn hlen).mono fun _ _ ⟨h1, h2, h3⟩ => ⟨h1, h2.mono (fun k hk => hk.elim id (hY k)), h3⟩
theorem boolY (Y : Nat → Prop) (w : World) (p : Nat) (l : List UInt8) (b : Bool) (h : WrAt Y w p l) (hY : Cl Y w) (hlen : l.length + 1 ≤ 140737488355328) :
    Calls Try.prog 21 #[.pointer (some ⟨p, 0, none⟩), .bool b] w fun e w' => e = .returned (.pointer (some ⟨p, 0, none⟩)) ∧ WrAt Y w' p (l ++ boolB b) ∧ Stay Y w w' :=
  (bool_any _ w p l b h hlen).mono fun _ _ ⟨h1, h2, h3⟩ => ⟨h1, h2.mono (fun k hk => hk.elim id (hY k)), h3⟩
theorem layY (Y : Nat → Prop) (w : World) (p : Nat) (l b : List UInt8) (x : Value) (h : WrAt Y w p l) (hY : Cl Y w) (hx : Slc w x b) (hlen : l.length + b.length ≤ 140737488355328) :
    Calls Try.prog 46 #[.pointer (some ⟨p, 0, none⟩), x] w fun e w' => e = .returned (.pointer (some ⟨p, 0, none⟩)) ∧ WrAt Y w' p (l ++ b) ∧ Stay Y w w' :=
  (lay_any _ w p l b x h hx hlen).mono fun _ _ ⟨h1, h2, h3⟩ => ⟨h1, h2.mono (fun k hk => hk.elim id (hY k)), h3⟩
theorem wbytesY (Y : Nat → Prop) (w : World) (p : Nat) (l b : List UInt8) (x : Value) (h : WrAt Y w p l) (hY : Cl Y w) (hx : Slc w x b) (hq : 0 < b.length → ∀ k, x.ownBlock = some k → ¬ Y k) (hlen : l.length + 9 + b.length ≤ 140737488355328) :
    Calls Try.prog 23 #[.pointer (some ⟨p, 0, none⟩), x] w fun e w' => e = .returned (.pointer (some ⟨p, 0, none⟩)) ∧ WrAt Y w' p (l ++ bytesB b) ∧ Stay Y w w' :=
  (wbytes_any _ w p l b x h hx hq hlen).mono fun _ _ ⟨h1, h2, h3⟩ => ⟨h1, h2.mono (fun k hk => hk.elim id (hY k)), h3⟩

set_option maxHeartbeats 2000000 in
theorem intY (Y : Nat → Prop) (w : World) (p : Nat) (l : List UInt8) (n : Int) (h : WrAt Y w p l) (hY : Cl Y w) (h1 : -9223372036854775808 ≤ n) (h2 : n ≤ 9223372036854775807) (hlen : l.length + 10 ≤ 140737488355328) :
    Calls Try.prog 20 #[.pointer (some ⟨p, 0, none⟩), .int .i64 n] w fun e w' => e = .returned (.pointer (some ⟨p, 0, none⟩)) ∧ WrAt Y w' p (l ++ intB n) ∧ Stay Y w w' := by
  have H := Lib.hid h
  have HY := Lib.hid hY
  clear h hY
  unfold intB
  by_cases hn : n < 0
  · rw [if_pos hn]
    obtain ⟨m, hm⟩ : ∃ m : Nat, -1 - n = m := ⟨(-1 - n).toNat, by omega⟩
    have hm2 : (-1 - n).toNat = m := by omega
    rw [hm2]
    obtain rfl : n = -1 - m := by omega
    clear hm hm2
    go_enter Try.func20, Try.ntmps20
    go_wp2_with fail
    refine (boolY Y w p l true H.out HY.out (by omega)).mono ?_
    rintro e w1 ⟨rfl, hw1, hst1⟩
    have H1 := Lib.hid hw1
    clear hw1
    go_wp2_with fail
    refine (uintY Y w1 p (l ++ boolB true) m _ (by omega) H1.out (HY.out.stay hst1) (by omega) (by simp [boolB]; omega)).mono ?_
    rintro e w2 ⟨rfl, hw2, hst2⟩
    go_wp2
    go_ret
    exact ⟨rfl, by rw [← List.append_assoc]; exact hw2, hst1.trans hst2⟩
  · rw [if_neg hn]
    obtain ⟨m, hm⟩ : ∃ m : Nat, n = m := ⟨n.toNat, by omega⟩
    subst hm
    rw [Int.toNat_natCast]
    clear hn h1
    go_enter Try.func20, Try.ntmps20
    go_wp2_with fail
    refine (boolY Y w p l false H.out HY.out (by omega)).mono ?_
    rintro e w1 ⟨rfl, hw1, hst1⟩
    have H1 := Lib.hid hw1
    clear hw1
    go_wp2_with fail
    refine (uintY Y w1 p (l ++ boolB false) m _ rfl H1.out (HY.out.stay hst1) (by omega) (by simp [boolB]; omega)).mono ?_
    rintro e w2 ⟨rfl, hw2, hst2⟩
    go_wp2
    go_ret
    exact ⟨rfl, by rw [← List.append_assoc]; exact hw2, hst1.trans hst2⟩

theorem wtextY (Y : Nat → Prop) (w : World) (p : Nat) (l b : List UInt8) (h : WrAt Y w p l) (hY : Cl Y w) (hlen : l.length + 9 + b.length ≤ 140737488355328) :
    Calls Try.prog 22 #[.pointer (some ⟨p, 0, none⟩), strV b] w fun e w' => e = .returned (.pointer (some ⟨p, 0, none⟩)) ∧ WrAt Y w' p (l ++ bytesB b) ∧ Stay Y w w' := by
  obtain ⟨cap, w1, hcv, hslc, hst, hsz⟩ := conv_txt w b (by omega)
  have H := Lib.hid h
  have HSL := Lib.hid hslc
  have HST := Lib.hid hst
  have HY := Lib.hid hY
  clear h hslc hst hY
  have HB := H.out.lt
  unfold strV at hcv ⊢
  go_enter Try.func22, Try.ntmps22
  go_wp2_with fail
  refine (wbytes_any (fun k => Y k ∧ k < w.heap.size) w1 p l b _ (H.out.tight.stay0 HST.out) HSL.out (fun _ k e hX => by have e' : w.heap.size = k := (by simpa [Value.ownBlock] using e); omega) hlen).mono ?_
  rintro e w2 ⟨rfl, hw2, hst2⟩
  go_wp2
  go_ret
  have hsz1 := HST.out.size
  exact ⟨rfl, hw2.mono (fun k hk => by rcases hk with hk | hk; exact hk.1; exact HY.out k (by omega)), (HST.out.mono (fun _ x => x.elim)).trans (hst2.mono (fun k hk => hk.1))⟩

theorem wprintY (Y : Nat → Prop) (w : World) (p : Nat) (l b : List UInt8) (hb : b.length = 32) (h : WrAt Y w p l) (hY : Cl Y w) (hlen : l.length + 32 ≤ 140737488355328) :
    Calls Try.prog 24 #[.pointer (some ⟨p, 0, none⟩), prtV b] w fun e w' => e = .returned (.pointer (some ⟨p, 0, none⟩)) ∧ WrAt Y w' p (l ++ b) ∧ Stay Y w w' := by
  have H := Lib.hid h
  have HY := Lib.hid hY
  clear h hY
  unfold prtV
  go_enter Try.func24, Try.ntmps24
  go_wp2_with fail
  have hst0 : Stay (fun _ => False) w (w.alloc (.cells (cellsB b).toArray 28)) := Stay.alloc _ _
  have hsl : Slc (w.alloc (.cells (cellsB b).toArray 28)) (.slice (some ⟨w.heap.size, 0, none⟩) 32 32) b := by
    have := slc_of_block (cap := 32) (b := b) (heap_alloc_new w (.cells (cellsB b).toArray 28)) (fun j v hv => by simpa using hv) (by omega) (by decide)
    rw [hb] at this
    exact this
  refine (layY Y _ p l b _ (H.out.stay0 hst0) (HY.out.stay hst0) hsl (by omega)).mono ?_
  rintro e w2 ⟨rfl, hw2, hst2⟩
  go_wp2
  go_ret
  exact ⟨rfl, hw2, (hst0.mono (fun _ x => x.elim)).trans hst2⟩

set_option maxHeartbeats 2000000 in
theorem lay_thingY (Y : Nat → Prop) (w : World) (p : Nat) (l : List UInt8) (k n : Int) (x : Value) (b pr : List UInt8) (h : WrAt Y w p l) (hY : Cl Y w) (hx : Slc w x b) (hxb : 0 < b.length → ∀ k, x.ownBlock = some k → ¬ Y k) (hpr : pr.length = 32)
    (hn1 : -9223372036854775808 ≤ n) (hn2 : n ≤ 9223372036854775807) (hlen : l.length + b.length + 41 ≤ 140737488355328) :
    Calls Try.prog 7 #[.pointer (some ⟨p, 0, none⟩), .agg (thingC k n x pr).toArray] w fun e w' => e = .returned (.pointer (some ⟨p, 0, none⟩)) ∧ WrAt Y w' p (l ++ thingB k n b pr) ∧ Stay Y w w' := by
  have hb := heap_alloc_new w (.cells (thingC k n x pr).toArray 30)
  have hc0 := cell_of_row _ _ 0 _ _ _ hb
  have hc1 := cell_of_row _ _ 1 _ _ _ hb
  have hc2 := cell_of_row _ _ 2 _ _ _ hb
  rw [show (thingC k n x pr).toArray[0]? = some (.int .i64 k) by simp [thingC]] at hc0
  rw [show (thingC k n x pr).toArray[1]? = some (.int .i64 n) by simp [thingC]] at hc1
  rw [show (thingC k n x pr).toArray[2]? = some x by simp [thingC]] at hc2
  have hst0 : Stay Y w (w.alloc (.cells (thingC k n x pr).toArray 30)) := Stay.alloc _ _
  have hsf : Stay (fun _ => False) w (w.alloc (.cells (thingC k n x pr).toArray 30)) := Stay.alloc _ _
  have H := Lib.hid (h.stay0 hsf)
  have HX := Lib.hid (hx.stay0 hsf)
  have hcv := conv_slc (hx.stay0 hsf)
  unfold strV at hcv
  have HB := Lib.hid hb
  have hlt := h.lt
  have HY := Lib.hid (hY.stay hsf)
  have HXB := Lib.hid hxb
  obtain ⟨a0, c, rfl, _⟩ := id hx
  clear h hx hxb hb hY
  obtain ⟨hr0, hr1⟩ := kindOf_range k
  obtain ⟨hu0, hu1⟩ := u64_range n
  unfold thingB
  by_cases hk0 : kindOf k = 0
  · rw [if_pos hk0]
    unfold kindOf at hk0
    clear hr0 hr1 hcv
    go_enter Try.func7, Try.ntmps7
    go_wp2_with fail
    refine (uintY Y _ p l (IntKind.u64.wrap n).toNat _ (by omega) H.out HY.out (by omega) (by omega)).mono ?_
    rintro e w2 ⟨rfl, hw2, hst2⟩
    go_wp2
    go_ret
    exact ⟨rfl, hw2, hst0.trans hst2⟩
  rw [if_neg hk0]
  by_cases hk1 : kindOf k = 1
  · rw [if_pos hk1]
    unfold kindOf at hk1
    clear hr0 hr1 hcv hk0
    go_enter Try.func7, Try.ntmps7
    go_wp2_with fail
    refine (intY Y _ p l n H.out HY.out hn1 hn2 (by omega)).mono ?_
    rintro e w2 ⟨rfl, hw2, hst2⟩
    go_wp2
    go_ret
    exact ⟨rfl, hw2, hst0.trans hst2⟩
  rw [if_neg hk1]
  by_cases hk2 : kindOf k = 2
  · rw [if_pos hk2]
    unfold kindOf at hk2
    clear hr0 hr1 hcv hk0 hk1
    go_enter Try.func7, Try.ntmps7
    go_wp2_with fail
    refine (boolY Y _ p l (decide (0 < n)) H.out HY.out (by omega)).mono ?_
    rintro e w2 ⟨rfl, hw2, hst2⟩
    go_wp2
    go_ret
    exact ⟨rfl, hw2, hst0.trans hst2⟩
  rw [if_neg hk2]
  by_cases hk3 : kindOf k = 3
  · rw [if_pos (.inl hk3)]
    unfold kindOf at hk3
    clear hr0 hr1 hk0 hk1 hk2
    go_enter Try.func7, Try.ntmps7
    go_wp2_with fail
    refine (wtextY Y _ p l b H.out HY.out (by omega)).mono ?_
    rintro e w2 ⟨rfl, hw2, hst2⟩
    go_wp2
    go_ret
    exact ⟨rfl, hw2, hst0.trans hst2⟩
  by_cases hk4 : kindOf k = 4
  · rw [if_pos (.inr hk4)]
    unfold kindOf at hk4
    clear hr0 hr1 hcv hk0 hk1 hk2 hk3
    go_enter Try.func7, Try.ntmps7
    go_wp2_with fail
    refine (wbytesY Y _ p l b _ H.out HY.out HX.out HXB.out (by omega)).mono ?_
    rintro e w2 ⟨rfl, hw2, hst2⟩
    go_wp2
    go_ret
    exact ⟨rfl, hw2, hst0.trans hst2⟩
  rw [if_neg (by rintro (e | e); exact hk3 e; exact hk4 e)]
  have hk5 : kindOf k = 5 := by omega
  unfold kindOf at hk5
  clear hr0 hr1 hcv hk0 hk1 hk2 hk3 hk4
  go_enter Try.func7, Try.ntmps7
  go_wp2_with (refine wpList_load_mid rfl 28 (.tmp 44) rfl w.heap.size 3 rfl 30 (thingC k n _ pr).toArray (cellsB pr).toArray (0, 0) _ HB.out Try.underlying28 rfl (info_prt_of hpr) (fun j hj => by rw [Nat.add_comm]; simp [thingC]) ?_)
  refine (wprintY Y _ p l pr hpr H.out HY.out (by omega)).mono ?_
  rintro e w2 ⟨rfl, hw2, hst2⟩
  go_wp2
  go_ret
  exact ⟨rfl, hw2, hst0.trans hst2⟩

end Go.Proofs.Ytjaflioamjklfaa.Pk
