/-
  HornerJoins' walk.
-/
import Derived.Test.YtkbkjpeghbiadaaDoorHnC
import Derived.Test.YtkbkjpeghbiadaaDoorErrG
namespace Go.Proofs.YtkbkjpeghbiadaaDoor.Hn
open Go.RowKit
set_option maxRecDepth 100000

theorem join_sums (a b : List UInt8) : joinN (moreN 1 a) (moreN 1 b) b.length = moreN 1 (a ++ b) := by rw [join_more, moreN_app]

/-- Join of any number, as the law asks for it: what comes, and the error's number. -/
def joinI (p q : Nat) (z : Int) : Nat := if z < 0 then 0 else joinN p q z.toNat
def joinE (z : Int) : Nat := if z < 0 then 1 else 0
def errO (c : Nat) : Value := if c = 0 then .nilIface else errI c
theorem join_int (p q : Nat) (z : Int) (w : World) (hp : (p : Int) ≤ 4294967295) (hq : (q : Int) ≤ 4294967295) (hz : z ≤ 5000) :
    Calls Tryd.prog 13 #[.int .u32 p, .int .u32 q, .int .i64 z] w fun e w' => e = .returned (.tuple #[u32V (joinI p q z), errO (joinE z)]) ∧ w = w' := by
  unfold joinI joinE errO
  by_cases h : z < 0
  · simp only [if_pos h]
    exact join_neg p q z w h
  · simp only [if_neg h]
    have := join_any p q z.toNat w hp hq (by omega)
    rw [Int.toNat_of_nonneg (by omega)] at this
    exact this
theorem rjoin_neg (a b : Nat) (n : Int) (w : World) (hn : n < 0) :
    Calls Tryd.prog 16 #[.int .u32 a, .int .u32 b, .int .i64 n] w fun e w' => e = .returned (.tuple #[u32V 0, .int .i64 1]) ∧ w = w' := by
  go_enter Tryd.func16, Tryd.ntmps16
  go_wp2
  go_ret2
  exact ⟨rfl, rfl⟩
theorem rjoin_int (p q : Nat) (z : Int) (w : World) (hp : (p : Int) ≤ 4294967295) (hq : (q : Int) ≤ 4294967295) (hz : z ≤ 5000) :
    Calls Tryd.prog 16 #[.int .u32 p, .int .u32 q, .int .i64 z] w fun e w' => e = .returned (.tuple #[u32V (joinI p q z), .int .i64 (joinE z : Nat)]) ∧ w = w' := by
  unfold joinI joinE
  by_cases h : z < 0
  · simp only [if_pos h]
    exact rjoin_neg p q z w h
  · simp only [if_neg h]
    have := rjoin_any p q z.toNat w hp hq (by omega)
    rw [Int.toNat_of_nonneg (by omega)] at this
    exact this
theorem num_o (c : Nat) (w : World) (hg : ErrCell w) : Calls Tryd.prog 11 #[errO c] w fun e w' => e = .returned (.int .i64 (c : Int)) ∧ Stay (fun _ => False) w w' := num_any c w hg (errO c) rfl

set_option maxHeartbeats 1000000 in
theorem joins_walk (a b : List UInt8) (x y : Value) (o0 o1 o2 : Int) (p q : Nat) (w : World) (hg : ErrCell w) (hx : Slc w x a) (hy : Slc w y b) (ha : a.length ≤ 140737488355328) (hb : b.length ≤ 140737488355328)
    (hp : o0 % 4294967296 = (p : Int)) (hq : o1 % 4294967296 = (q : Int)) (hp2 : (p : Int) ≤ 4294967295) (hq2 : (q : Int) ≤ 4294967295) :
    Calls Tryd.prog 4 #[x, y, .agg #[.int .i64 o0, .int .i64 o1, .int .i64 o2]] w fun e w' => e = .returned (.bool true) ∧ Stay (fun _ => False) w w' := by
  obtain ⟨i0, hi, hz0, hz1, hz2⟩ := info_parts info5
  have HI := Lib.hid hi
  have HZ0 := Lib.hid hz0
  have HZ1 := Lib.hid hz1
  have HZ2 := Lib.hid hz2
  have hs0 := Stay.alloc (X := fun _ => False) w (.cells #[.int .i64 o0, .int .i64 o1, .int .i64 o2] 33)
  have HX := Lib.hid (hx.stay0 hs0)
  have HY := Lib.hid (hy.stay0 hs0)
  have HG := Lib.hid hg
  have HP := Lib.hid hp
  have HQ := Lib.hid hq
  have HB := Lib.hid (heap_alloc_new w (.cells #[.int .i64 o0, .int .i64 o1, .int .i64 o2] 33))
  have HJ := Lib.hid (join_sums a b)
  have HM := Lib.hid (moreN_app 1 a b)
  have hma := moreN_lt 1 a
  have hmb := moreN_lt 1 b
  obtain ⟨a0, ca, rfl, _⟩ := hx
  obtain ⟨b0, cb, rfl, _⟩ := hy
  clear hi hz0 hz1 hz2 hg hp hq
  by_cases hl : (20000 : Int) < (a.length : Int) + (b.length : Int)
  · go_enter Tryd.func4, Tryd.ntmps4
    go_wp2_with fail
    refine (sure_any _).mono ?_
    rintro e w1 ⟨rfl, hs1⟩
    go_wp2
    go_ret
    exact ⟨rfl, hs0.trans hs1⟩
  · go_enter Tryd.func4, Tryd.ntmps4
    go_wp2_with fail
    generalize w.alloc (.cells #[.int .i64 o0, .int .i64 o1, .int .i64 o2] 33) = w0 at HX HY HB hs0 ⊢
    refine (own_any _ a w0 HX.out (by omega)).mono ?_
    rintro e w1 ⟨v1, rfl, how1, hs1⟩
    have HS1 := Lib.hid hs1
    have HO1 := Lib.hid how1
    have hsz1 := hs1.size
    clear how1 hs1
    go_wp2_with (at_builtin; refine wpList_append_slc rfl (.tmp 22) (.tmp 23) 22 rfl w0.heap.size i0 Tryd.underlying22 HI.out HZ0.out HZ1.out HZ2.out v1 _ a b rfl rfl HO1.out (HY.out.stay0 HS1.out) (by omega) hsz1 ?_; intro v2 w2 hown2 hgr2 hnn2)
    have hT2 : Stay (fun _ => False) w0 w2 := stay_seal (X := fun k => w0.heap.size ≤ k) ((HS1.out.mono (fun _ x => x.elim)).trans (Stay.grown (X := fun k => w0.heap.size ≤ k) hgr2 (fun k e => (HO1.out.lt k e).1))) (fun k hk => hk)
    have HT2 := Lib.hid hT2
    have HV2 := Lib.hid hown2.slc
    have k0 : w2.cell? ⟨w.heap.size, 0, none⟩ = some (.int .i64 o0) := hT2.cell (cell_of_row w0 w.heap.size 0 _ _ _ HB.out) (fun x => x)
    have k1 : w2.cell? ⟨w.heap.size, 1, none⟩ = some (.int .i64 o1) := hT2.cell (cell_of_row w0 w.heap.size 1 _ _ _ HB.out) (fun x => x)
    have k2 : w2.cell? ⟨w.heap.size, 2, none⟩ = some (.int .i64 o2) := hT2.cell (cell_of_row w0 w.heap.size 2 _ _ _ HB.out) (fun x => x)
    clear hown2 hgr2 hnn2 hT2 hsz1
    go_wp2_with fail
    refine (sum_any a _ _ (HX.out.stay0 HT2.out)).mono ?_
    rintro e w' ⟨rfl, rfl⟩
    go_wp2_with fail
    refine (sum_any b _ _ (HY.out.stay0 HT2.out)).mono ?_
    rintro e w' ⟨rfl, rfl⟩
    unfold u32V
    go_wp2_with fail
    refine (join_any (moreN 1 a) (moreN 1 b) b.length _ (by omega) (by omega) (by omega)).mono ?_
    rintro e w' ⟨rfl, rfl⟩
    rw [HJ.out]
    unfold u32V
    go_wp2_with fail
    refine (sum_any (a ++ b) _ _ HV2.out).mono ?_
    rintro e w' ⟨rfl, rfl⟩
    unfold u32V
    go_wp2_with fail
    refine (sum_any a _ _ (HX.out.stay0 HT2.out)).mono ?_
    rintro e w' ⟨rfl, rfl⟩
    unfold u32V
    go_wp2_with fail
    refine (more_any (moreN 1 a) b _ _ (by omega) (HY.out.stay0 HT2.out)).mono ?_
    rintro e w' ⟨rfl, rfl⟩
    rw [← HM.out]
    unfold u32V
    by_cases hz : (5000 : Int) < o2
    · go_wp2_with fail
      refine (sure_any _).mono ?_
      rintro e w3 ⟨rfl, hs3⟩
      go_wp2
      go_ret
      exact ⟨rfl, (hs0.trans HT2.out).trans hs3⟩
    · go_wp2_with fail
      rw [HP.out, HQ.out]
      refine (join_int p q o2 _ hp2 hq2 (by omega)).mono ?_
      rintro e w' ⟨rfl, rfl⟩
      unfold u32V
      go_wp2_with fail
      rw [HP.out, HQ.out]
      refine (rjoin_int p q o2 _ hp2 hq2 (by omega)).mono ?_
      rintro e w' ⟨rfl, rfl⟩
      unfold u32V
      go_wp2_with fail
      refine (num_o (joinE o2) _ (HG.out.stay0 (hs0.trans HT2.out))).mono ?_
      rintro e w3 ⟨rfl, hs3⟩
      go_wp2_with fail
      refine (sure_any _).mono ?_
      rintro e w4 ⟨rfl, hs4⟩
      go_wp2
      go_ret
      exact ⟨rfl, ((hs0.trans HT2.out).trans hs3).trans hs4⟩

end Go.Proofs.YtkbkjpeghbiadaaDoor.Hn
