/-
  horner over pack's slices: the contracts of spell, Grow and Concat.
-/
import Derived.Test.YthbcgimmbcdnmaaDoorHnMp
import Derived.Test.YthbcgimmbcdnmaaDoorGrow
namespace Go.Proofs.YthbcgimmbcdnmaaDoor.Hn
open Go.RowKit Pk
set_option maxRecDepth 100000

/-- A block of bytes, marked or not, as a slice. -/
theorem slc_block (w : World) (l : List UInt8) (t : TypeId) (fr : Nat × Nat) (hl : l.length ≤ 9223372036854775807) : Slc (w.alloc (.cells (cellsB l).toArray t fr)) (.slice (some ⟨w.heap.size, 0, none⟩) l.length l.length) l := by
  refine ⟨_, _, rfl, fun _ => ⟨_, rfl, fun j v hv => ?_⟩, (fun h => by cases h), Nat.le_refl _, hl⟩
  rw [add_at, Nat.zero_add]
  rw [cell_of_row _ _ _ _ _ _ (heap_alloc_new w _)]
  simpa using hv

/-- A sum as its bytes. -/
def tailB (s : Nat) : List UInt8 := [UInt8.ofNat (s % 256), UInt8.ofNat (s / 256 % 256), UInt8.ofNat (s / 65536 % 256), UInt8.ofNat (s / 16777216 % 256)]
theorem length_tailB (s : Nat) : (tailB s).length = 4 := rfl
theorem toNat_mod (s : Nat) : (UInt8.ofNat (s % 256)).toNat = s % 256 := by simp

theorem tail_vals {s : Nat} (hs : (s : Int) ≤ 4294967295) : (cellsB (tailB s)).toArray = #[.int .u8 ((s : Int) % 256), .int .u8 ((s : Int) / 256 % 256), .int .u8 ((s : Int) / 65536 % 256), .int .u8 ((s : Int) / 16777216)] := by
  simp only [cellsB, tailB, List.map_cons, List.map_nil, byteV, toNat_mod]
  have h3 : s / 16777216 % 256 = s / 16777216 := by omega
  rw [h3]
  simp
theorem info_tail {l : List UInt8} (h : l.length = 4) : (Tryd.prog.info? 87).map (·.size) = some (cellsB l).toArray.size := by
  rw [List.size_toArray, length_cellsB, h]
  kernel_rfl
/-- A whole tail out of cells that are known. -/
theorem load_tail {w : World} {g o : Nat} {t : TypeId} {S : Array Value} {fr : Nat × Nat} {l : List UInt8} (hl : l.length = 4) (hg : w.heap[g]? = some (.cells S t fr)) (hc : ∀ j, j < 4 → S[o + j]? = (cellsB l).toArray[j]?) :
    (loadVar 87 ⟨g, o, none⟩).run Tryd.prog w = .ok (.agg (cellsB l).toArray) w :=
  run_loadVar_mid (P := Tryd.prog) w g o t 87 S (cellsB l).toArray fr _ hg Tryd.underlying87 rfl (info_tail hl) (fun j hj => hc j (by rw [List.size_toArray, length_cellsB, hl] at hj; exact hj))

theorem spell_any (s : Nat) (w : World) (hs : (s : Int) ≤ 4294967295) :
    Calls Tryd.prog 38 #[.int .u32 s] w fun e w' => e = .returned (.agg (cellsB (tailB s)).toArray) ∧ Stay (fun _ => False) w w' := by
  have HT := Lib.hid (tail_vals hs)
  go_enter Tryd.func38, Tryd.ntmps38
  go_wp2
  refine wp_loop_rounds 5 ?_
  repeat any_goals (rw [rounds_succ]; go_wp2)
  rw [← HT.out]
  have hld := load_tail (l := tailB s) rfl (show ((w.alloc (.cells (cellsB (tailB s)).toArray 87)).alloc (.cells (cellsB (tailB s)).toArray 87)).heap[w.heap.size]? = _ from (Below.heap_alloc _ _ _ (by simp)).trans (heap_alloc_new w _)) (o := 0) (fun j _ => by rw [Nat.zero_add])
  exact bodyPost_ret (v := .agg (cellsB (tailB s)).toArray) (by simp [results, Tryd.results38, asAddr, hld]) rfl ⟨rfl, (Stay.alloc _ _).trans (Stay.alloc _ _)⟩

theorem stay_nil {w w' : World} (h : w.grownBy w' (Value.slice none 0 0).ownBlock) : Stay (fun _ => False) w w' := Stay.grown (X := fun _ => False) h (fun k e => by cases e)

theorem grow_nil (n : Nat) (w : World) (hn : n ≤ 140737488355328) :
    Calls Tryd.prog 60 #[.slice none 0 0, .int .i64 n] w fun e w' => ∃ v, e = .returned v ∧ Owns w.heap.size w' v [] ∧ Stay (fun _ => False) w w' := by
  obtain ⟨i0, hi, hz0, hz1, hz2⟩ := info_parts info5
  rcases Nat.eq_zero_or_pos n with h0 | h0
  · exact (Any8.slices_Grow_room Tryd.growA none 0 0 n w (Nat.le_refl _) (by decide) (by omega) (by omega)).mono fun e w' ⟨h1, h2⟩ => ⟨_, h1, Owns.nil _ _, h2 ▸ Stay.refl _ _⟩
  · refine (Any8.slices_Grow_grow Tryd.growA i0 _ hi hz0 (by omega) none 0 0 n [] w (Nat.le_refl _) (by omega) (by rw [hz2]; omega) (by omega) (by simp) (fun _ => rfl) (fun a e => by cases e)).mono fun e w' ⟨h1, h2⟩ => ?_
    have hgc := grownCap_ge w (0 + n) 0 5
    have hg := heap_alloc_new w.drew (.cells (([] : List Value).toArray ++ Builtin.zeroCells (Value.int .u8 0).cells (0 + n - 0) ++ Builtin.zeroCells (Value.int .u8 0).cells (grownCap w (0 + n) 0 5 - (0 + n))) 5)
    subst h2
    refine ⟨_, h1, ⟨rfl, .inr ⟨w.heap.size, _, _, rfl, Nat.le_refl _, hg, Nat.zero_le _, grownCap_le_maxLen _ _ _ _ (by unfold maxLen; omega), ?_, rfl⟩⟩, Stay.drew.trans (Stay.alloc _ _)⟩
    simp [size_zeroCells, Value.cells]
    show n + (grownCap w n 0 5 - n) = grownCap w n 0 5
    rw [Nat.zero_add] at hgc
    omega

/-- slices.Concat of two. -/
theorem concat_any (g : Nat) (x y : Value) (a b : List UInt8) (w : World) (fr : Nat × Nat) (hg : w.heap[g]? = some (.cells #[x, y] 36 fr)) (hx : Slc w x a) (hy : Slc w y b) (hlen : a.length + b.length ≤ 140737488355328) :
    Calls Tryd.prog 40 #[.slice (some ⟨g, 0, none⟩) 2 2] w fun e w' => ∃ v, e = .returned v ∧ Owns w.heap.size w' v (a ++ b) ∧ Stay (fun _ => False) w w' := by
  obtain ⟨i0, hi, hz0, hz1, hz2⟩ := info_parts info5
  have HI := Lib.hid hi
  have HZ0 := Lib.hid hz0
  have HZ1 := Lib.hid hz1
  have HZ2 := Lib.hid hz2
  have HX := Lib.hid hx
  have HY := Lib.hid hy
  obtain ⟨a0, c0, rfl, _⟩ := hx
  obtain ⟨a1, c1, rfl, _⟩ := hy
  have k0 : w.cell? ⟨g, 0, none⟩ = some (.slice a0 a.length c0) := cell_of_row w g 0 _ _ fr hg
  have k1 : w.cell? ⟨g, 1, none⟩ = some (.slice a1 b.length c1) := cell_of_row w g 1 _ _ fr hg
  have HKW := Lib.hid k1
  have e0 : ((a.length : Int) + (b.length : Int)) = ((a.length + b.length : Nat) : Int) := by omega
  have E0 := Lib.hid e0
  clear hi hz0 hz1 hz2 hg e0
  go_enter Tryd.func40, Tryd.ntmps40
  go_wp2
  refine wp_loop_rounds 3 ?_
  repeat any_goals (rw [rounds_succ]; go_wp2_with fail)
  rw [E0.out]
  refine (grow_nil (a.length + b.length) w hlen).mono ?_
  rintro e w1 ⟨v, rfl, how, hst⟩
  have k0' := hst.cell k0 (fun x => x)
  have k1' := hst.cell k1 (fun x => x)
  have hxl := HX.out.stay0 hst
  have hyl := HY.out.stay0 hst
  have hsz := hst.size
  have HO := Lib.hid how
  have HT := Lib.hid hst
  obtain ⟨av, cv, hv⟩ := how.form
  subst hv
  clear k0 k1 how hst
  go_wp2_with fail
  refine wp_loop_rounds 3 ?_
  rw [rounds_succ]
  go_wp2_with (at_builtin; refine wpList_append_slc rfl (.tmp 31) (.tmp 32) 36 rfl w.heap.size i0 Tryd.underlying36 HI.out HZ0.out HZ1.out HZ2.out _ (.slice a0 a.length c0) [] a rfl rfl HO.out hxl (by simp; omega) hsz ?_; intro v2 w2 hown2 hgr2 hnn2)
  have hT2 : Stay (fun _ => False) w w2 := stay_seal (X := fun k => w.heap.size ≤ k) ((HT.out.mono (fun _ x => x.elim)).trans (Stay.grown (X := fun k => w.heap.size ≤ k) hgr2 (fun k e => (HO.out.lt k e).1))) (fun k hk => hk)
  have k1'' := hT2.cell (HKW.out) (fun x => x)
  have hyl2 := HY.out.stay0 hT2
  have hsz2 := hT2.size
  have HO2 := Lib.hid hown2
  have HT2 := Lib.hid hT2
  rw [List.nil_append] at hown2
  obtain ⟨av2, cv2, hv2⟩ := hown2.form
  subst hv2
  clear hxl hyl k0' k1' hown2 hgr2 hnn2 hT2
  go_wp2_with fail
  rw [rounds_succ]
  go_wp2_with (at_builtin; refine wpList_append_slc rfl (.tmp 31) (.tmp 32) 36 rfl w.heap.size i0 Tryd.underlying36 HI.out HZ0.out HZ1.out HZ2.out (.slice av2 a.length cv2) (.slice a1 b.length c1) a b rfl rfl HO2.out hyl2 hlen hsz2 ?_; intro v3 w3 hown3 hgr3 hnn3)
  have hT3 : Stay (fun _ => False) w w3 := stay_seal (X := fun k => w.heap.size ≤ k) ((HT2.out.mono (fun _ x => x.elim)).trans (Stay.grown (X := fun k => w.heap.size ≤ k) hgr3 (fun k e => (HO2.out.lt k e).1))) (fun k hk => hk)
  clear hgr3 hnn3 hyl2
  go_wp2_with fail
  rw [rounds_succ]
  go_wp2
  go_ret
  exact ⟨v3, rfl, hown3, hT3⟩

end Go.Proofs.YthbcgimmbcdnmaaDoor.Hn
