/-
  pack: a reader's prints.
-/
import Derived.Test.YtgfkeoicdjcfpaaDoorPkH
import Derived.Laws.CopyOwn
import Derived.Test.YtgfkeoicdjcfpaaDoorRow2
namespace Go.Proofs.YtgfkeoicdjcfpaaDoor.Pk
open Go.RowKit
set_option maxRecDepth 100000

def z32 : List UInt8 := List.replicate 32 0
/-- A print. -/
def prtV (h : List UInt8) : Value := .agg (cellsB h).toArray
theorem zero_prt (w : World) : (zeroValue 48).run Tryd.prog w = .ok (prtV z32) w := by kernel_rfl
theorem info_prt : (Tryd.prog.info? 48).map (·.size) = some 32 := by kernel_rfl

/-- The print that bytes begin with. -/
def sumB (b : List UInt8) : Except Nat (List UInt8 × List UInt8) := if b.length < 32 then .error 12 else .ok (b.take 32, b.drop 32)

theorem splice_all (h : List UInt8) (hl : h.length = 32) : splice (cellsB z32) 0 (cellsB h) = cellsB h := by
  unfold splice
  rw [List.take_zero, List.nil_append, Nat.zero_add, length_cellsB, hl, List.drop_eq_nil_of_le (by simp [cellsB, z32]), List.append_nil]

theorem run_copy_prt (w : World) (g : Nat) (hg : w.heap[g]? = some (.cells (cellsB z32).toArray 48 (0, 0))) (x : Value) (b : List UInt8) (hx : Slc w x b) (ty : TypeId) :
    ∃ w2, (Builtin.copy_ #[22, 22] ty #[.slice (some ⟨g, 0, none⟩) 32 32, x]).run Tryd.prog w = .ok (.int .i64 ((min b.length 32 : Nat) : Int)) w2 ∧
      w2.heap[g]? = some (.cells (splice (cellsB z32) 0 (cellsB (b.take 32))).toArray 48 (0, 0)) ∧ Stay (fun k => k = g) w w2 := by
  obtain ⟨a0, c, rfl, hr, hn, hc, hm⟩ := hx
  have hu := Tryd.underlying22
  have hsz : (Tryd.prog.info? 5).map (·.size) = some 1 := by kernel_rfl
  rcases Nat.eq_zero_or_pos b.length with h0 | h0
  · have hb : b = [] := List.eq_nil_of_length_eq_zero h0
    subst hb
    refine ⟨w, ?_, ?_, Stay.refl _ _⟩
    · exact run_copy_none (P := Tryd.prog) w 22 22 ty 5 _ _ _ _ _ _ hu hsz rfl
    · simpa [splice, cellsB] using hg
  · obtain ⟨ad, rfl, hcell⟩ := hr h0
    have hcs : (cellsB (b.take 32)).length = Nat.min b.length 32 := by rw [length_cellsB, List.length_take, Nat.min_comm]
    have hrun := run_copy_row (P := Tryd.prog) w 22 22 ty 5 g 0 32 32 ad b.length c (cellsB z32).toArray 48 (cellsB (b.take 32)) hu hsz hg hcs (fun j v hv => hcell j v (by
      simp only [cellsB, List.map_take, List.getElem?_take] at hv
      split at hv
      · exact hv
      · cases hv)) (by rw [hcs]; simp [cellsB, z32]; exact Nat.min_le_right _ _) (oneCell_cellsB _)
    have he : (cellsB z32).toArray.toList.take 0 ++ cellsB (b.take 32) ++ (cellsB z32).toArray.toList.drop (0 + (cellsB (b.take 32)).length) = splice (cellsB z32) 0 (cellsB (b.take 32)) := by
      unfold splice
      rw [List.append_assoc, List.toList_toArray]
    rw [he] at hrun
    exact ⟨_, hrun.trans (by rw [hcs]; rfl), setRow_heap w g _ _ _ _ hg, Stay.setRow w g _ rfl⟩

set_option maxHeartbeats 2000000 in
theorem sum_any (b : List UInt8) (w : World) (x : Value) (hx : Slc w x b) : Calls Tryd.prog 45 #[x] w fun e w' => Ret (prtV z32) prtV w' x (sumB b) e ∧ Stay (fun _ => False) w w' := by
  have HX := Lib.hid hx
  obtain ⟨a0, c, rfl, hr, hn, hc, hm⟩ := id hx
  have hx' := hx
  have HR := Lib.hid hr
  clear hr hx
  by_cases hlt : b.length < 32
  · have hs : sumB b = .error 12 := if_pos hlt
    rw [hs]
    clear hs
    have hW1 := heap_alloc_new (w.alloc (.cells (cellsB z32).toArray 48)) (.cells (cellsB z32).toArray 48)
    rw [show (w.alloc (.cells (cellsB z32).toArray 48)).heap.size = w.heap.size + 1 by simp] at hW1
    obtain ⟨w2, hcp, hg2, hs2⟩ := run_copy_prt _ (w.heap.size + 1) hW1 _ b (HX.out.stay0 ((Stay.alloc _ (.cells (cellsB z32).toArray 48)).trans (Stay.alloc _ (.cells (cellsB z32).toArray 48)))) 3
    rw [Nat.min_eq_left (by omega)] at hcp
    have HG2 := Lib.hid hg2
    clear hW1 hg2
    go_enter Tryd.func45, Tryd.ntmps45
    have hb0 : w2.heap[w.heap.size]? = some (.cells (cellsB z32).toArray 48 (0, 0)) := (hs2.block w.heap.size (by simp; omega) (fun e => by omega)).trans ((Below.heap_alloc _ _ _ (by simp)).trans (heap_alloc_new w _))
    have HB0 := Lib.hid hb0
    have hst2 : Stay (fun _ => False) w w2 := stay_seal (X := fun k => k = w.heap.size + 1) (((Stay.alloc w (.cells (cellsB z32).toArray 48)).trans (Stay.alloc _ (.cells (cellsB z32).toArray 48))).trans hs2) (fun k hk => by omega)
    clear hb0
    go_wp2_with (first
      | ((with_reducible refine wpList_alloc_at rfl 48 rfl _ (zero_prt _) ?_); show wpList _ _ _ _ _ (World.alloc _ (.cells (cellsB z32).toArray 48)))
      | (refine wpList_store_mid rfl 48 (.tmp 2) (.tmp 12) rfl w.heap.size 0 rfl 48 (cellsB z32) (cellsB z32) rfl HB0.out info_prt (by simp) (oneCell_cellsB _) ?_; intro w3 hg3 hs3; have HG3 := Lib.hid hg3; clear hg3))
    have hg4 := HG3.out
    rw [splice_all z32 (by simp [z32])] at hg4
    have hld := run_loadVar_mid (P := Tryd.prog) w3 w.heap.size 0 48 48 (cellsB z32).toArray (cellsB z32).toArray (0, 0) _ hg4 Tryd.underlying48 rfl info_prt (fun j _ => by rw [Nat.zero_add])
    have hst3 : Stay (fun _ => False) w w3 := stay_seal (X := fun k => k = w.heap.size) ((hst2.mono (fun _ x => x.elim)).trans hs3) (fun k hk => by omega)
    refine bodyPost_ret (v := .tuple #[prtV z32, .slice none 0 0, errI 12]) ?_ rfl ⟨rfl, hst3⟩
    simp [results, Tryd.results45, asAddr, Result.andThen, hld]
    exact ⟨rfl, rfl⟩
  · have hs : sumB b = .ok (b.take 32, b.drop 32) := if_neg hlt
    rw [hs]
    have hcut := hx'.cut (k := 32) (by omega)
    have HCut := Lib.hid hcut
    have hcs : (b.take 32).length = 32 := by rw [List.length_take]; omega
    have hW1 := heap_alloc_new (w.alloc (.cells (cellsB z32).toArray 48)) (.cells (cellsB z32).toArray 48)
    rw [show (w.alloc (.cells (cellsB z32).toArray 48)).heap.size = w.heap.size + 1 by simp] at hW1
    obtain ⟨w2, hcp, hg2, hs2⟩ := run_copy_prt _ (w.heap.size + 1) hW1 _ b (HX.out.stay0 ((Stay.alloc _ (.cells (cellsB z32).toArray 48)).trans (Stay.alloc _ (.cells (cellsB z32).toArray 48)))) 3
    rw [Nat.min_eq_right (by omega)] at hcp
    rw [splice_all _ hcs] at hg2
    have HG2 := Lib.hid hg2
    have HCS := Lib.hid hcs
    have hb0 : w2.heap[w.heap.size]? = some (.cells (cellsB z32).toArray 48 (0, 0)) := (hs2.block w.heap.size (by simp; omega) (fun e => by omega)).trans ((Below.heap_alloc _ _ _ (by simp)).trans (heap_alloc_new w _))
    have HB0 := Lib.hid hb0
    have hst2 : Stay (fun _ => False) w w2 := stay_seal (X := fun k => k = w.heap.size + 1) (((Stay.alloc w (.cells (cellsB z32).toArray 48)).trans (Stay.alloc _ (.cells (cellsB z32).toArray 48))).trans hs2) (fun k hk => by omega)
    have hcases : 32 = c ∨ ¬ c = 32 := by omega
    have hb32 : (32 : Int) ≤ (b.length : Int) := by omega
    clear hb0 hW1 hg2 hs hcs hcut hs2 hc hlt
    go_enter Tryd.func45, Tryd.ntmps45
    go_wp2_with ((with_reducible refine wpList_alloc_at rfl 48 rfl _ (zero_prt _) ?_); show wpList _ _ _ _ _ (World.alloc _ (.cells (cellsB z32).toArray 48)))
    have hdr : w2.drew.heap[w.heap.size + 1]? = some (.cells (cellsB (b.take 32)).toArray 48 (0, 0)) := HG2.out
    have hsz32 : (Tryd.prog.info? 48).map (·.size) = some (cellsB (b.take 32)).toArray.size := by rw [List.size_toArray, length_cellsB, HCS.out]; exact info_prt
    have hsz33 : (Tryd.prog.info? 48).map (·.size) = some (cellsB (b.take 32)).length := by rw [length_cellsB, HCS.out]; exact info_prt
    have hfit : 0 + (cellsB (b.take 32)).length ≤ (cellsB z32).length := by rw [length_cellsB, HCS.out, length_cellsB]; decide
    have HDR := Lib.hid hdr
    have HSZ := Lib.hid hsz32
    have HSZ3 := Lib.hid hsz33
    have HFIT := Lib.hid hfit
    obtain ⟨CS, hCS⟩ : ∃ CS, CS = cellsB (b.take 32) := ⟨_, rfl⟩
    rw [← hCS] at HDR HSZ HSZ3 HFIT
    have HCSV := Lib.hid hCS
    clear hdr hsz32 hsz33 hfit hcp hCS
    rcases hcases with hc32 | hc32
    subst hc32
    all_goals
      refine wp_region_any (by kernel_rfl) ?_
      change wpAny _ _ _ _ _ _ _ (World.drew _)
      refine wpAny_take (i := 1) (v := ?_) rfl (by kernel_rfl) (by kernel_rfl) (by kernel_rfl) (fun _ _ _ h => h) (Or.inl ⟨by rfl, ?_⟩) ?_
      rotate_left
      · intro w
        go_simp
        with_reducible rfl
      refine wpAny_take (i := 2) (v := ?_) rfl (by kernel_rfl) (by kernel_rfl) (by kernel_rfl) (fun _ _ _ h => h) (Or.inl ⟨by rfl, ?_⟩) ?_
      rotate_left
      · intro w
        go_simp
        with_reducible rfl
      refine wpAny_take (i := 3) (v := ?_) rfl (by kernel_rfl) (by kernel_rfl) (by kernel_rfl) (fun _ _ _ h => h) (Or.inl ⟨by rfl, ?_⟩) ?_
      rotate_left
      · intro w
        go_simp
        with_reducible rfl
      refine wpAny_ready (rs := [0]) (by kernel_rfl) (by simp) (AllReady.cons rfl (fun K hK => ?_) AllReady.nil)
      refine step_load_mid rfl 48 (.tmp 5) rfl (w.heap.size + 1) 0 rfl 48 CS.toArray CS.toArray (0, 0) _ HDR.out Tryd.underlying48 rfl HSZ.out (fun j _ => by rw [Nat.zero_add]) ?_
      refine hK _ _ ?_
      clear hK K
      refine wpAny_ready (rs := [4]) (by kernel_rfl) (by simp) (AllReady.cons rfl (fun K hK => ?_) AllReady.nil)
      refine step_store_mid rfl 48 (.tmp 2) (.tmp 14) rfl w.heap.size 0 rfl 48 (cellsB z32) CS rfl HB0.out HSZ3.out HFIT.out (by rw [HCSV.out]; exact oneCell_cellsB _) ?_
      intro w3 hg3 hs3
      refine hK _ _ ?_
      clear hK K
      refine wpAny_ready (rs := [5]) (by kernel_rfl) (by simp) (AllReady.cons rfl (fun K hK => ?_) AllReady.nil)
      go_simp
      refine hK _ _ ?_
      clear hK K
      refine wpAny_ready (rs := [6]) (by kernel_rfl) (by simp) (AllReady.cons rfl (fun K hK => ?_) AllReady.nil)
      go_simp
      refine hK _ _ ?_
      clear hK K
      refine wpAny_done (by kernel_rfl) ?_ _
      have HG3 := Lib.hid hg3
      clear hg3
      go_wp2
      have hg4 := HG3.out
      rw [HCSV.out, splice_all _ HCS.out] at hg4
      have hld := run_loadVar_mid (P := Tryd.prog) w3 w.heap.size 0 48 48 (cellsB (b.take 32)).toArray (cellsB (b.take 32)).toArray (0, 0) _ hg4 Tryd.underlying48 rfl (by rw [List.size_toArray, length_cellsB, HCS.out]; exact info_prt) (fun j _ => by rw [Nat.zero_add])
      have hst3 : Stay (fun _ => False) w w3 := stay_seal (X := fun k => k = w.heap.size) ((hst2.mono (fun _ x => x.elim)).trans ((Stay.drew (X := fun k => k = w.heap.size)).trans hs3)) (fun k hk => by omega)
      refine bodyPost_ret (v := .tuple #[prtV (b.take 32), _, .nilIface]) (by simp [results, Tryd.results45, asAddr, Result.andThen, hld]; exact ⟨rfl, rfl⟩) rfl ⟨ret_ok (val := prtV) rfl (Sub.stay0 (w := w) ?_ hst3), hst3⟩
      have hs := HCut.out
      first
        | (rw [if_neg hc32] at hs; exact hs)
        | (rw [if_pos trivial, Nat.sub_self] at hs; exact hs)
        | (rw [if_pos rfl, Nat.sub_self] at hs; exact hs)

end Go.Proofs.YtgfkeoicdjcfpaaDoor.Pk
