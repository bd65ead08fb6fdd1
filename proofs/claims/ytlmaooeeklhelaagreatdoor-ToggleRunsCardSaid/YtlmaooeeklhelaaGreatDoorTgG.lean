/-
  toggle: a teller as bytes.
-/
import Derived.Test.YtlmaooeeklhelaaGreatDoorTgF
namespace Go.Proofs.YtlmaooeeklhelaaGreatDoor.Tg
open Go.RowKit Pk
set_option maxRecDepth 100000

/-- What a teller tells, as bytes. -/
def tellB (n : Nat) (b : Bool) (m : Nat) : List UInt8 := spellB n ++ boolB b ++ spellB m
/-- A teller, as a value. -/
def tellV (n : Nat) (b : Bool) (m : Nat) : Value := .agg #[.int .u64 n, .bool b, .int .i64 m]

set_option maxHeartbeats 2000000 in
theorem telllay_any (n m : Nat) (b : Bool) (w : World) (hn : (n : Int) ≤ 18446744073709551615) (hm : (m : Int) ≤ 9223372036854775807) :
    Calls Tryz.prog 38 #[tellV n b m] w fun e w' => ∃ v, e = .returned v ∧ Owns w.heap.size w' v (tellB n b m) ∧ Stay (fun _ => False) w w' := by
  unfold tellV
  obtain ⟨w1, hw1⟩ : ∃ w1, w.alloc (.cells #[.int .u64 (n : Int), .bool b, .int .i64 (m : Int)] 77) = w1 := ⟨_, rfl⟩
  have hs1 : Stay (fun _ => False) w w1 := hw1 ▸ Stay.alloc _ _
  have hb : w1.heap[w.heap.size]? = some (.cells #[.int .u64 (n : Int), .bool b, .int .i64 (m : Int)] 77 (0, 0)) := hw1 ▸ heap_alloc_new w _
  have hz : w1.heap.size = w.heap.size + 1 := by subst hw1; simp
  obtain ⟨S, hSd⟩ : ∃ S : World → Prop, S = Stay (fun _ => False) w1 := ⟨_, rfl⟩
  have HS := Lib.hid (show ∀ W, S W → Stay (fun _ => False) w1 W by intro W h; rw [hSd] at h; exact h)
  have HSm := Lib.hid (show ∀ W, Stay (fun _ => False) w1 W → S W by intro W h; rw [hSd]; exact h)
  have HS0 := Lib.hid (HSm.out w1.drew Stay.drew)
  have hrow := fun W (h : S W) => ((HS.out W h).block w.heap.size (by omega) (fun x => x)).trans hb
  have HC0 := Lib.hid (show ∀ W, S W → W.cell? ⟨w.heap.size, 0, none⟩ = some (.int .u64 (n : Int)) from fun W h => cell_of_row W _ 0 _ _ _ (hrow W h))
  have HC1 := Lib.hid (show ∀ W, S W → W.cell? ⟨w.heap.size, 1, none⟩ = some (.bool b) from fun W h => cell_of_row W _ 1 _ _ _ (hrow W h))
  have HC2 := Lib.hid (show ∀ W, S W → W.cell? ⟨w.heap.size, 2, none⟩ = some (.int .i64 (m : Int)) from fun W h => cell_of_row W _ 2 _ _ _ (hrow W h))
  have HST := Lib.hid hs1
  have HZ := Lib.hid hz
  clear hSd hrow hb hs1 hz
  go_enter Tryz.func38, Tryz.ntmps38
  go_wp2
  refine wp_region_held (S := S) (by kernel_rfl) ?_
  change wpAnyH _ _ _ _ _ _ _ _ (World.drew _)
  refine wpAnyH_takeL (i := 1) (v := .pointer (some ⟨w.heap.size, 0, none⟩)) #[false, true, false, false, false, false, false, false, false, false, false, false, false] rfl (by kernel_rfl) (by kernel_rfl) (by kernel_rfl) (fun _ _ _ h => h) (by kernel_rfl) HS0.out (Or.inl ⟨by rfl, fun W hW => ?_⟩) ?_
  · go_simp
  conv =>
    arg 8
    simp [Act.put]
  refine wpAnyH_takeL (i := 4) (v := .pointer (some ⟨w.heap.size, 1, none⟩)) #[false, true, false, false, true, false, false, false, false, false, false, false, false] rfl (by kernel_rfl) (by kernel_rfl) (by kernel_rfl) (fun _ _ _ h => h) (by kernel_rfl) HS0.out (Or.inl ⟨by rfl, fun W hW => ?_⟩) ?_
  · go_simp
  conv =>
    arg 8
    simp [Act.put]
  refine wpAnyH_takeL (i := 7) (v := .pointer (some ⟨w.heap.size, 2, none⟩)) #[false, true, false, false, true, false, false, true, false, false, false, false, false] rfl (by kernel_rfl) (by kernel_rfl) (by kernel_rfl) (fun _ _ _ h => h) (by kernel_rfl) HS0.out (Or.inl ⟨by rfl, fun W hW => ?_⟩) ?_
  · go_simp
  conv =>
    arg 8
    simp [Act.put]
  refine wpAnyH_takeL (i := 2) (v := .int .u64 (n : Int)) #[false, true, true, false, true, false, false, true, false, false, false, false, false] rfl (by kernel_rfl) (by kernel_rfl) (by kernel_rfl) (fun _ _ _ h => h) (by kernel_rfl) HS0.out (Or.inl ⟨by rfl, fun W hW => ?_⟩) ?_
  · have kc := HC0.out W hW
    go_simp
  conv =>
    arg 8
    simp [Act.put]
  refine wpAnyH_takeL (i := 5) (v := .bool b) #[false, true, true, false, true, true, false, true, false, false, false, false, false] rfl (by kernel_rfl) (by kernel_rfl) (by kernel_rfl) (fun _ _ _ h => h) (by kernel_rfl) HS0.out (Or.inl ⟨by rfl, fun W hW => ?_⟩) ?_
  · have kc := HC1.out W hW
    go_simp
  conv =>
    arg 8
    simp [Act.put]
  refine wpAnyH_takeL (i := 8) (v := .int .i64 (m : Int)) #[false, true, true, false, true, true, false, true, true, false, false, false, false] rfl (by kernel_rfl) (by kernel_rfl) (by kernel_rfl) (fun _ _ _ h => h) (by kernel_rfl) HS0.out (Or.inl ⟨by rfl, fun W hW => ?_⟩) ?_
  · have kc := HC2.out W hW
    go_simp
  conv =>
    arg 8
    simp [Act.put]
  refine wpAnyH_takeL (i := 9) (v := .int .u64 (m : Int)) #[false, true, true, false, true, true, false, true, true, true, false, false, false] rfl (by kernel_rfl) (by kernel_rfl) (by kernel_rfl) (fun _ _ _ h => h) (by kernel_rfl) HS0.out (Or.inl ⟨by rfl, fun W hW => ?_⟩) ?_
  · go_simp
    rw [IntKind.wrap_u64]
    omega
  conv =>
    arg 8
    simp [Act.put]
  refine wpAnyH_one #[true, true, true, false, true, true, false, true, true, true, false, false, false] (i := 0) rfl (by kernel_rfl) (by kernel_rfl) (fun K hK => ?_)
  go_simp
  go_wp2_with (
    go_at_call 56
    refine (new_any _).mono ?_
    rintro e w2 ⟨rfl, hw2⟩
    have HW2 := Lib.hid (show WrAt (fun k => w1.heap.size ≤ k) w2 w1.heap.size [] from hw2 ▸ WrAt.new w1.drew)
    have HS2 := Lib.hid (show Stay (fun _ => False) w1 w2 from hw2 ▸ (Stay.drew (X := fun _ => False) (w := w1)).trans (Stay.alloc _ _))
    clear hw2)
  refine hK _ _ ?_ ?_
  · exact HSm.out _ HS2.out
  conv =>
    arg 8
    simp [Act.put]
  refine wpAnyH_one #[true, true, true, true, true, true, false, true, true, true, false, false, false] (i := 3) rfl (by kernel_rfl) (by kernel_rfl) (fun K hK => ?_)
  go_simp
  go_wp2_with (
    go_at_call 57
    refine (uint_any _ w2 _ _ n HW2.out hn (by simp)).mono ?_
    rintro e w3 ⟨rfl, hw3, hs3⟩
    have HW3 := Lib.hid (hw3.mono (Y := fun k => w1.heap.size ≤ k) (fun k hk => hk.elim id (fun h => Nat.le_trans HS2.out.size h)))
    have HS3 := Lib.hid (stay_seal (X := fun k => w1.heap.size ≤ k) ((HS2.out.mono (fun _ x => x.elim)).trans hs3) (fun k hk => hk))
    clear hw3 hs3)
  refine hK _ _ ?_ ?_
  · exact HSm.out _ HS3.out
  conv =>
    arg 8
    simp [Act.put]
  refine wpAnyH_one #[true, true, true, true, true, true, true, true, true, true, false, false, false] (i := 6) rfl (by kernel_rfl) (by kernel_rfl) (fun K hK => ?_)
  go_simp
  go_wp2_with (
    go_at_call 58
    refine (bool_any _ w3 _ _ b HW3.out (by rw [List.nil_append, length_spellB]; have := kOf_le n; omega)).mono ?_
    rintro e w4 ⟨rfl, hw4, hs4⟩
    have HW4 := Lib.hid (hw4.mono (Y := fun k => w1.heap.size ≤ k) (fun k hk => hk.elim id (fun h => Nat.le_trans HS3.out.size h)))
    have HS4 := Lib.hid (stay_seal (X := fun k => w1.heap.size ≤ k) ((HS3.out.mono (fun _ x => x.elim)).trans hs4) (fun k hk => hk))
    clear hw4 hs4)
  refine hK _ _ ?_ ?_
  · exact HSm.out _ HS4.out
  conv =>
    arg 8
    simp [Act.put]
  refine wpAnyH_one #[true, true, true, true, true, true, true, true, true, true, true, false, false] (i := 10) rfl (by kernel_rfl) (by kernel_rfl) (fun K hK => ?_)
  go_simp
  go_wp2_with (
    go_at_call 57
    refine (uint_any _ w4 _ _ m HW4.out (by omega) (by rw [List.nil_append, List.length_append, length_spellB]; have := kOf_le n; simp only [boolB, List.length_cons, List.length_nil]; omega)).mono ?_
    rintro e w5 ⟨rfl, hw5, hs5⟩
    have HW5 := Lib.hid (hw5.mono (Y := fun k => w1.heap.size ≤ k) (fun k hk => hk.elim id (fun h => Nat.le_trans HS4.out.size h)))
    have HS5 := Lib.hid (stay_seal (X := fun k => w1.heap.size ≤ k) ((HS4.out.mono (fun _ x => x.elim)).trans hs5) (fun k hk => hk))
    clear hw5 hs5)
  refine hK _ _ ?_ ?_
  · exact HSm.out _ HS5.out
  conv =>
    arg 8
    simp [Act.put]
  refine wpAnyH_one #[true, true, true, true, true, true, true, true, true, true, true, true, false] (i := 11) rfl (by kernel_rfl) (by kernel_rfl) (fun K hK => ?_)
  go_simp
  go_wp2_with (
    go_at_call 59
    refine (done_any _ w5 _ _ HW5.out (by rw [List.nil_append, List.length_append, List.length_append, length_spellB, length_spellB]; have := kOf_le n; have := kOf_le m; simp only [boolB, List.length_cons, List.length_nil]; omega)).mono ?_
    rintro e w6 ⟨v6, rfl, ho6, hs6⟩
    have HO6 := Lib.hid (show Owns w.heap.size w6 v6 (tellB n b m) from Owns.base (by unfold tellB; rw [← List.nil_append (spellB n)]; exact ho6) (fun k hk => by have h1 := (ho6.lt k hk).1; have h2 := HS5.out.size; have h3 := HZ.out; omega))
    have HS6 := Lib.hid (HS5.out.trans hs6)
    clear ho6 hs6)
  refine hK _ _ ?_ ?_
  · exact HSm.out _ HS6.out
  conv =>
    arg 8
    simp [Act.put]
  refine wpAnyH_takeL (i := 12) (v := v6) #[true, true, true, true, true, true, true, true, true, true, true, true, true] rfl (by kernel_rfl) (by kernel_rfl) (by kernel_rfl) (fun _ _ _ h => h) (by kernel_rfl) (HSm.out _ HS6.out) (Or.inl ⟨by rfl, fun W hW => ?_⟩) ?_
  · go_simp
  conv =>
    arg 8
    simp [Act.put]
  refine wpAnyH_done (by kernel_rfl) ?_ _
  go_wp2
  go_ret
  exact ⟨v6, rfl, HO6.out, HST.out.trans HS6.out⟩

end Go.Proofs.YtlmaooeeklhelaaGreatDoor.Tg
