/-
  bloom: a filter as bytes, the program's.
-/
import Derived.Test.YtgchdgdhjafdbaaDoorBoE
import Derived.Test.YtgchdgdhjafdbaaDoorHeld
namespace Go.Proofs.YtgchdgdhjafdbaaDoor.Bo
open Go.RowKit Pk
set_option maxRecDepth 100000

theorem encode_nil (w : World) : Calls Tryd.prog 11 #[.pointer none] w fun e w' => e = .returned (.slice none 0 0) ∧ w = w' := by
  go_enter Tryd.func11, Tryd.ntmps11
  go_wp2
  go_ret
  exact ⟨rfl, rfl⟩

/-- A filter as bytes. -/
def encB (q : Nat) (B : List Bool) : List UInt8 := spellB B.length ++ spellB q ++ bytesB (packB B)

set_option maxHeartbeats 4000000 in
theorem encode_any (w : World) (p g q : Nat) (B : List Bool) (h : FAt w p g q B) :
    Calls Tryd.prog 11 #[.pointer (some ⟨p, 0, none⟩)] w fun e w' => ∃ v, e = .returned v ∧ Owns w.heap.size w' v (encB q B) ∧ Stay (fun _ => False) w w' := by
  have hg := h.glt
  obtain ⟨lo, hi, qlo, qhi, ne, n, c, hn, hp, ho⟩ := h
  obtain ⟨S, hSd⟩ : ∃ S : World → Prop, S = Stay (fun _ => False) w := ⟨_, rfl⟩
  have HS := Lib.hid (show ∀ W, S W → Stay (fun _ => False) w W by intro W h; rw [hSd] at h; exact h)
  have HSm := Lib.hid (show ∀ W, Stay (fun _ => False) w W → S W by intro W h; rw [hSd]; exact h)
  have HS0 := Lib.hid (HSm.out w.drew Stay.drew)
  have hrow := fun W (h : S W) => ((HS.out W h).block p (lt_of_block hp) (fun x => x)).trans hp
  obtain ⟨m, hm⟩ : ∃ m, m = B.length := ⟨_, rfl⟩
  unfold encB
  rw [← hm] at lo hi hn hrow ⊢
  have HPL := Lib.hid (show (packB B).length ≤ 131072 by rw [len_pack]; unfold need; omega)
  have HPB := Lib.hid (show (bytesB (packB B)).length ≤ 131081 by unfold bytesB; rw [List.length_append, length_spellB]; have := kOf_le (packB B).length; have := HPL.out; omega)
  have HC0 := Lib.hid (show ∀ W, S W → W.cell? ⟨p, 0, none⟩ = some (.int .i64 (m : Int)) from fun W h => cell_of_row W _ 0 _ _ _ (hrow W h))
  have HC1 := Lib.hid (show ∀ W, S W → W.cell? ⟨p, 1, none⟩ = some (.int .i64 (q : Int)) from fun W h => cell_of_row W _ 1 _ _ _ (hrow W h))
  have HC2 := Lib.hid (show ∀ W, S W → W.cell? ⟨p, 2, none⟩ = some (.slice (some ⟨g, 0, none⟩) n c) from fun W h => cell_of_row W _ 2 _ _ _ (hrow W h))
  have HO := Lib.hid (show Owns 0 w (.slice (some ⟨g, 0, none⟩) n c) (packB B) from ho)
  have HGL := Lib.hid hg
  clear hSd hrow hp ho hn hm hg
  go_enter Tryd.func11, Tryd.ntmps11
  go_wp2
  refine wp_region_held (S := S) (by kernel_rfl) ?_
  change wpAnyH _ _ _ _ _ _ _ _ (World.drew _)
  refine wpAnyH_takeL (i := 1) (v := .pointer (some ⟨p, 0, none⟩)) #[false, true, false, false, false, false, false, false, false, false, false, false, false, false, false, false, false, false, false, false] rfl (by kernel_rfl) (by kernel_rfl) (by kernel_rfl) (fun _ _ _ h => h) (by kernel_rfl) HS0.out (Or.inl ⟨by rfl, fun W hW => ?_⟩) ?_
  · go_simp
  conv =>
    arg 8
    simp [Act.put]
  refine wpAnyH_takeL (i := 7) (v := .pointer (some ⟨p, 0, none⟩)) #[false, true, false, false, false, false, false, true, false, false, false, false, false, false, false, false, false, false, false, false] rfl (by kernel_rfl) (by kernel_rfl) (by kernel_rfl) (fun _ _ _ h => h) (by kernel_rfl) HS0.out (Or.inl ⟨by rfl, fun W hW => ?_⟩) ?_
  · go_simp
  conv =>
    arg 8
    simp [Act.put]
  refine wpAnyH_takeL (i := 13) (v := .pointer (some ⟨p, 0, none⟩)) #[false, true, false, false, false, false, false, true, false, false, false, false, false, true, false, false, false, false, false, false] rfl (by kernel_rfl) (by kernel_rfl) (by kernel_rfl) (fun _ _ _ h => h) (by kernel_rfl) HS0.out (Or.inl ⟨by rfl, fun W hW => ?_⟩) ?_
  · go_simp
  conv =>
    arg 8
    simp [Act.put]
  refine wpAnyH_takeL (i := 2) (v := .pointer (some ⟨p, 0, none⟩)) #[false, true, true, false, false, false, false, true, false, false, false, false, false, true, false, false, false, false, false, false] rfl (by kernel_rfl) (by kernel_rfl) (by kernel_rfl) (fun _ _ _ h => h) (by kernel_rfl) HS0.out (Or.inl ⟨by rfl, fun W hW => ?_⟩) ?_
  · go_simp
  conv =>
    arg 8
    simp [Act.put]
  refine wpAnyH_takeL (i := 8) (v := .pointer (some ⟨p, 0, none⟩)) #[false, true, true, false, false, false, false, true, true, false, false, false, false, true, false, false, false, false, false, false] rfl (by kernel_rfl) (by kernel_rfl) (by kernel_rfl) (fun _ _ _ h => h) (by kernel_rfl) HS0.out (Or.inl ⟨by rfl, fun W hW => ?_⟩) ?_
  · go_simp
  conv =>
    arg 8
    simp [Act.put]
  refine wpAnyH_takeL (i := 14) (v := .pointer (some ⟨p, 0, none⟩)) #[false, true, true, false, false, false, false, true, true, false, false, false, false, true, true, false, false, false, false, false] rfl (by kernel_rfl) (by kernel_rfl) (by kernel_rfl) (fun _ _ _ h => h) (by kernel_rfl) HS0.out (Or.inl ⟨by rfl, fun W hW => ?_⟩) ?_
  · go_simp
  conv =>
    arg 8
    simp [Act.put]
  refine wpAnyH_takeL (i := 3) (v := .pointer (some ⟨p, 0, none⟩)) #[false, true, true, true, false, false, false, true, true, false, false, false, false, true, true, false, false, false, false, false] rfl (by kernel_rfl) (by kernel_rfl) (by kernel_rfl) (fun _ _ _ h => h) (by kernel_rfl) HS0.out (Or.inl ⟨by rfl, fun W hW => ?_⟩) ?_
  · go_simp
  conv =>
    arg 8
    simp [Act.put]
  refine wpAnyH_takeL (i := 9) (v := .pointer (some ⟨p, 1, none⟩)) #[false, true, true, true, false, false, false, true, true, true, false, false, false, true, true, false, false, false, false, false] rfl (by kernel_rfl) (by kernel_rfl) (by kernel_rfl) (fun _ _ _ h => h) (by kernel_rfl) HS0.out (Or.inl ⟨by rfl, fun W hW => ?_⟩) ?_
  · go_simp
  conv =>
    arg 8
    simp [Act.put]
  refine wpAnyH_takeL (i := 15) (v := .pointer (some ⟨p, 2, none⟩)) #[false, true, true, true, false, false, false, true, true, true, false, false, false, true, true, true, false, false, false, false] rfl (by kernel_rfl) (by kernel_rfl) (by kernel_rfl) (fun _ _ _ h => h) (by kernel_rfl) HS0.out (Or.inl ⟨by rfl, fun W hW => ?_⟩) ?_
  · go_simp
  conv =>
    arg 8
    simp [Act.put]
  refine wpAnyH_takeL (i := 4) (v := .int .i64 (m : Int)) #[false, true, true, true, true, false, false, true, true, true, false, false, false, true, true, true, false, false, false, false] rfl (by kernel_rfl) (by kernel_rfl) (by kernel_rfl) (fun _ _ _ h => h) (by kernel_rfl) HS0.out (Or.inl ⟨by rfl, fun W hW => ?_⟩) ?_
  · have kc := HC0.out W hW
    go_simp
  conv =>
    arg 8
    simp [Act.put]
  refine wpAnyH_takeL (i := 10) (v := .int .i64 (q : Int)) #[false, true, true, true, true, false, false, true, true, true, true, false, false, true, true, true, false, false, false, false] rfl (by kernel_rfl) (by kernel_rfl) (by kernel_rfl) (fun _ _ _ h => h) (by kernel_rfl) HS0.out (Or.inl ⟨by rfl, fun W hW => ?_⟩) ?_
  · have kc := HC1.out W hW
    go_simp
  conv =>
    arg 8
    simp [Act.put]
  refine wpAnyH_takeL (i := 16) (v := .slice (some ⟨g, 0, none⟩) n c) #[false, true, true, true, true, false, false, true, true, true, true, false, false, true, true, true, true, false, false, false] rfl (by kernel_rfl) (by kernel_rfl) (by kernel_rfl) (fun _ _ _ h => h) (by kernel_rfl) HS0.out (Or.inl ⟨by rfl, fun W hW => ?_⟩) ?_
  · have kc := HC2.out W hW
    go_simp
  conv =>
    arg 8
    simp [Act.put]
  refine wpAnyH_takeL (i := 5) (v := .int .u64 (m : Int)) #[false, true, true, true, true, true, false, true, true, true, true, false, false, true, true, true, true, false, false, false] rfl (by kernel_rfl) (by kernel_rfl) (by kernel_rfl) (fun _ _ _ h => h) (by kernel_rfl) HS0.out (Or.inl ⟨by rfl, fun W hW => ?_⟩) ?_
  · go_simp
    rw [IntKind.wrap_u64]
    omega
  conv =>
    arg 8
    simp [Act.put]
  refine wpAnyH_takeL (i := 11) (v := .int .u64 (q : Int)) #[false, true, true, true, true, true, false, true, true, true, true, true, false, true, true, true, true, false, false, false] rfl (by kernel_rfl) (by kernel_rfl) (by kernel_rfl) (fun _ _ _ h => h) (by kernel_rfl) HS0.out (Or.inl ⟨by rfl, fun W hW => ?_⟩) ?_
  · go_simp
    rw [IntKind.wrap_u64]
    omega
  conv =>
    arg 8
    simp [Act.put]
  refine wpAnyH_one #[true, true, true, true, true, true, false, true, true, true, true, true, false, true, true, true, true, false, false, false] (i := 0) rfl (by kernel_rfl) (by kernel_rfl) (fun K hK => ?_)
  go_simp
  go_wp2_with (
    go_at_call 33
    refine (Pk.new_any _).mono ?_
    rintro e w2 ⟨rfl, hw2⟩
    have HW2 := Lib.hid (show WrAt (fun k => w.heap.size ≤ k) w2 w.heap.size [] from hw2 ▸ WrAt.new w.drew)
    have HS2 := Lib.hid (show Stay (fun _ => False) w w2 from hw2 ▸ (Stay.drew (X := fun _ => False) (w := w)).trans (Stay.alloc _ _))
    clear hw2)
  refine hK _ _ ?_ ?_
  · exact HSm.out _ HS2.out
  conv =>
    arg 8
    simp [Act.put]
  refine wpAnyH_one #[true, true, true, true, true, true, true, true, true, true, true, true, false, true, true, true, true, false, false, false] (i := 6) rfl (by kernel_rfl) (by kernel_rfl) (fun K hK => ?_)
  go_simp
  go_wp2_with (
    go_at_call 34
    refine (uint_base w.heap.size w2 _ _ m HW2.out (by omega) (by simp)).mono ?_
    rintro e w3 ⟨rfl, hw3, hs3⟩
    have HW3 := Lib.hid hw3
    have HS3 := Lib.hid (stay_seal (X := fun k => w.heap.size ≤ k) ((HS2.out.mono (fun _ x => x.elim)).trans hs3) (fun k hk => hk))
    clear hw3 hs3)
  refine hK _ _ ?_ ?_
  · exact HSm.out _ HS3.out
  conv =>
    arg 8
    simp [Act.put]
  refine wpAnyH_one #[true, true, true, true, true, true, true, true, true, true, true, true, true, true, true, true, true, false, false, false] (i := 12) rfl (by kernel_rfl) (by kernel_rfl) (fun K hK => ?_)
  go_simp
  go_wp2_with (
    go_at_call 34
    refine (uint_base w.heap.size w3 _ _ q HW3.out (by omega) (by rw [List.nil_append, length_spellB]; have := kOf_le m; omega)).mono ?_
    rintro e w4 ⟨rfl, hw4, hs4⟩
    have HW4 := Lib.hid hw4
    have HS4 := Lib.hid (stay_seal (X := fun k => w.heap.size ≤ k) ((HS3.out.mono (fun _ x => x.elim)).trans hs4) (fun k hk => hk))
    clear hw4 hs4)
  refine hK _ _ ?_ ?_
  · exact HSm.out _ HS4.out
  conv =>
    arg 8
    simp [Act.put]
  refine wpAnyH_one #[true, true, true, true, true, true, true, true, true, true, true, true, true, true, true, true, true, true, false, false] (i := 17) rfl (by kernel_rfl) (by kernel_rfl) (fun K hK => ?_)
  go_simp
  go_wp2_with (
    go_at_call 35
    refine (wbytes_any _ w4 _ _ (packB B) _ HW4.out (HO.out.stay0 HS4.out).slc (fun _ k hk => by cases hk; have h1 := HGL.out; show ¬ w.heap.size ≤ g; omega) (by rw [List.nil_append, List.length_append, length_spellB, length_spellB]; have := kOf_le m; have := kOf_le q; have := HPL.out; omega)).mono ?_
    rintro e w5 ⟨rfl, hw5, hs5⟩
    have HW5 := Lib.hid (hw5.mono (Y := fun k => w.heap.size ≤ k) (fun k hk => hk.elim id (fun h => Nat.le_trans HS4.out.size h)))
    have HS5 := Lib.hid (stay_seal (X := fun k => w.heap.size ≤ k) ((HS4.out.mono (fun _ x => x.elim)).trans hs5) (fun k hk => hk))
    clear hw5 hs5)
  refine hK _ _ ?_ ?_
  · exact HSm.out _ HS5.out
  conv =>
    arg 8
    simp [Act.put]
  refine wpAnyH_one #[true, true, true, true, true, true, true, true, true, true, true, true, true, true, true, true, true, true, true, false] (i := 18) rfl (by kernel_rfl) (by kernel_rfl) (fun K hK => ?_)
  go_simp
  go_wp2_with (
    go_at_call 36
    refine (done_any _ w5 _ _ HW5.out (by rw [List.nil_append, List.length_append, List.length_append, length_spellB, length_spellB]; have := kOf_le m; have := kOf_le q; have := HPB.out; omega)).mono ?_
    rintro e w6 ⟨v6, rfl, ho6, hs6⟩
    have HO6 := Lib.hid (show Owns w.heap.size w6 v6 (spellB m ++ spellB q ++ bytesB (packB B)) from Owns.base (by rw [← List.nil_append (spellB m)]; exact ho6) (fun k hk => by have h1 := (ho6.lt k hk).1; have h2 := HS5.out.size; omega))
    have HS6 := Lib.hid (HS5.out.trans hs6)
    clear ho6 hs6)
  refine hK _ _ ?_ ?_
  · exact HSm.out _ HS6.out
  conv =>
    arg 8
    simp [Act.put]
  refine wpAnyH_takeL (i := 19) (v := v6) #[true, true, true, true, true, true, true, true, true, true, true, true, true, true, true, true, true, true, true, true] rfl (by kernel_rfl) (by kernel_rfl) (by kernel_rfl) (fun _ _ _ h => h) (by kernel_rfl) (HSm.out _ HS6.out) (Or.inl ⟨by rfl, fun W hW => ?_⟩) ?_
  · go_simp
  conv =>
    arg 8
    simp [Act.put]
  refine wpAnyH_done (by kernel_rfl) ?_ _
  go_wp2
  go_ret
  exact ⟨v6, rfl, HO6.out, HS6.out⟩

end Go.Proofs.YtgchdgdhjafdbaaDoor.Bo
