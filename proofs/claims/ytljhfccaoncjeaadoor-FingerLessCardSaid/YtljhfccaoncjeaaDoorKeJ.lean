/-
  keccak: Sum of a state; Sum of bytes.
-/
import Derived.Test.YtljhfccaoncjeaaDoorKeI
namespace Go.Proofs.YtljhfccaoncjeaaDoor.Ke
open Go.RowKit
set_option maxRecDepth 100000

theorem statesum_none (w : World) : Calls Tryd.prog 27 #[.pointer none] w fun e w' => e = .returned (arrV z32) ∧ Stay (fun _ => False) w w' := by
  have p0 := BAt.new w 25 (List.replicate 32 0)
  have p1 := BAt.new (w.alloc (.cells (cellsB (List.replicate 32 0)).toArray 25)) 25 (List.replicate 32 0)
  rw [show (w.alloc (.cells (cellsB (List.replicate 32 0)).toArray 25)).heap.size = w.heap.size + 1 by simp] at p1
  have P0 := Lib.hid (p0.stay (Stay.alloc (X := fun _ => False) _ (.cells (cellsB (List.replicate 32 0)).toArray 25)) (fun x => x))
  have P1 := Lib.hid p1
  clear p0 p1
  go_enter Tryd.func27, Tryd.ntmps27
  go_wp2_with (first
    | (with_reducible refine arr_32.alloc rfl rfl ?_)
    | (refine arr_32.load rfl (.tmp 3) rfl (w.heap.size + 1) rfl (List.replicate 32 0) (by simp) P1.out ?_)
    | (refine arr_32.store rfl (.tmp 2) (.tmp 8) rfl w.heap.size rfl (List.replicate 32 0) (List.replicate 32 0) rfl (by simp) (by simp) P0.out ?_; intro w3 hp3 hs3; have H3 := Lib.hid hp3; clear hp3))
  have hld := arr_32.run_load (by simp) H3.out
  refine bodyPost_ret (v := arrV z32) (by simp [results, Tryd.results27, asAddr, Act.put, hld, z32]) rfl ⟨rfl, ?_⟩
  exact stay_seal (X := fun k => k = w.heap.size) (((Stay.alloc _ _).trans (Stay.alloc _ _)).trans hs3) (fun k hk => by omega)

theorem out_take (f : St) : (blockK f).take 32 = outK f 32 := by
  apply List.ext_getElem?
  intro i
  by_cases h : i < 32
  · rw [List.getElem?_take, if_pos h]
    unfold blockK outK
    rw [List.getElem?_map, List.getElem?_map, List.getElem?_range (by omega), List.getElem?_range h]
    simp only [Option.map_some]
    rw [show i / 136 = 0 by omega, show i % 136 = i by omega]
    rfl
  · rw [List.getElem?_take, if_neg h, List.getElem?_eq_none (by simp [outK]; omega)]

set_option maxHeartbeats 2000000 in
theorem statesum_any (w : World) (g : Nat) (f : St) (t : Nat) (h : StAt w g f t) (ht : t < 136) (hp : PathAt w) (hg0 : 2 < w.heap.size) :
    Calls Tryd.prog 27 #[.pointer (some ⟨g, 0, none⟩)] w fun e w' => e = .returned (arrV (outK (endK (f, t) 6) 32)) ∧ Stay (fun _ => False) w w' := by
  have p0 := BAt.new w 25 (List.replicate 32 0)
  have hw1 : Stay (fun _ => False) w ((w.alloc (.cells (cellsB (List.replicate 32 0)).toArray 25)).alloc (.cells (cellsB (List.replicate 32 0)).toArray 25)) := (Stay.alloc _ _).trans (Stay.alloc _ _)
  have p1 := BAt.new (w.alloc (.cells (cellsB (List.replicate 32 0)).toArray 25)) 25 (List.replicate 32 0)
  rw [show (w.alloc (.cells (cellsB (List.replicate 32 0)).toArray 25)).heap.size = w.heap.size + 1 by simp] at p1
  have p0' := p0.stay (Stay.alloc (X := fun _ => False) _ (.cells (cellsB (List.replicate 32 0)).toArray 25)) (fun x => x)
  have hsz : ((w.alloc (.cells (cellsB (List.replicate 32 0)).toArray 25)).alloc (.cells (cellsB (List.replicate 32 0)).toArray 25)).heap.size = w.heap.size + 2 := by simp
  generalize hW1 : (w.alloc (.cells (cellsB (List.replicate 32 0)).toArray 25)).alloc (.cells (cellsB (List.replicate 32 0)).toArray 25) = W1 at *
  have HS := Lib.hid (h.stay hw1 (fun x => x))
  have HP := Lib.hid (hp.stay hw1 (fun x => x))
  have HT := Lib.hid ht
  have P0 := Lib.hid p0'
  have P1 := Lib.hid p1
  have HW1 := Lib.hid hW1
  have HST := Lib.hid hw1
  have HSZ := Lib.hid hsz
  have HG := Lib.hid hg0
  have HN := Lib.hid (show StAt (W1.alloc (.cells (cellsU zeroSt 25 ++ [Value.int .i64 ((0 : Nat) : Int)]).toArray 75)) W1.heap.size zeroSt 0 from heap_alloc_new W1 _)
  clear h hp ht p0 p0' p1 hW1 hw1 hsz hg0
  go_enter Tryd.func27, Tryd.ntmps27
  go_wp2_with (first
    | ((with_reducible refine arr_32.alloc rfl rfl ?_); try rw [HW1.out])
    | (refine load_cells rfl 75 (.tmp 10) rfl ⟨g, 0, none⟩ rfl _ (run_load_st HS.out) ?_)
    | ((with_reducible refine wpList_alloc_at rfl 75 rfl _ (zero_st _) ?_); show wpList _ _ _ _ _ (W1.alloc (.cells (cellsU zeroSt 25 ++ [Value.int .i64 ((0 : Nat) : Int)]).toArray 75)))
    | (refine store_st rfl (.tmp 4) (.tmp 11) rfl W1.heap.size rfl zeroSt f 0 t rfl HN.out ?_
       intro w2 h2 s2
       have HS2 := Lib.hid h2
       have HST2 := Lib.hid (show Stay (fun k => k = W1.heap.size) W1 w2 from (Stay.alloc _ _).trans s2)
       clear h2 s2))
  have hn1 : W1.heap.size ≠ 2 := by have := HG.out; have := HSZ.out; omega
  refine (end_any w2 W1.heap.size f t 6 HS2.out HT.out (HP.out.stay HST2.out (fun e => hn1 e.symm)) hn1).mono ?_
  rintro e w3 ⟨rfl, hs3, st3⟩
  have HS3 := Lib.hid hs3
  have HST3 := Lib.hid (HST2.out.trans st3)
  have HN1 := Lib.hid hn1
  clear hs3 st3 hn1
  go_wp2_with fail
  refine (out_any w3 W1.heap.size _ t HS3.out).mono ?_
  rintro e w4 ⟨rfl, st4⟩
  have hz4 := (HST3.out.trans (st4.mono (fun _ x => x.elim))).size
  have HZ4 := Lib.hid hz4
  have B0 := Lib.hid ((P0.out.stay HST3.out (fun (e : w.heap.size = W1.heap.size) => by have := HSZ.out; omega)).stay st4 (fun x => x))
  have B1 := Lib.hid ((P1.out.stay HST3.out (fun (e : w.heap.size + 1 = W1.heap.size) => by have := HSZ.out; omega)).stay st4 (fun x => x))
  have HN4 := Lib.hid (BAt.new w4 78 (List.replicate 136 0))
  have HST4 := Lib.hid (HST3.out.trans (st4.mono (fun _ x => x.elim)))
  clear st4 hz4
  go_wp2_with (first
    | ((with_reducible refine arr_136.alloc rfl rfl ?_))
    | (refine arr_136.store rfl (.tmp 5) (.tmp 14) rfl w4.heap.size rfl (List.replicate 136 0) (blockK (endK (f, t) 6)) rfl (by simp) (length_blockK _) HN4.out ?_
       intro w5 h5 s5
       have HB5 := Lib.hid h5
       have HST5 := Lib.hid (show Stay (fun k => k = w4.heap.size) w4 w5 from (Stay.alloc _ _).trans s5)
       clear h5 s5))
  have C0 := Lib.hid (B0.out.stay HST5.out (fun (e : w.heap.size = w4.heap.size) => by have := HSZ.out; have := HZ4.out; omega))
  have C1 := Lib.hid (B1.out.stay HST5.out (fun (e : w.heap.size + 1 = w4.heap.size) => by have := HSZ.out; have := HZ4.out; omega))
  obtain ⟨w6, hcp, h6, s6⟩ := run_copy_bytes w5.drew (w.heap.size + 1) 0 32 32 w4.heap.size 136 _ _ 3 (List.replicate 32 0) (blockK (endK (f, t) 6)) C1.out HB5.out (by simp) (by rw [length_blockK]; exact Nat.le_refl _) 32 rfl
  have e6 : (List.replicate 32 (0 : UInt8)).take 0 ++ (blockK (endK (f, t) 6)).take 32 ++ (List.replicate 32 (0 : UInt8)).drop (0 + 32) = outK (endK (f, t) 6) 32 := by
    rw [out_take, List.take_zero, List.nil_append, List.drop_eq_nil_of_le (by simp), List.append_nil]
  rw [e6] at h6
  have HB6 := Lib.hid h6
  have HST6 := Lib.hid s6
  have C06 := Lib.hid (C0.out.stay (Stay.drew.trans s6) (fun (e : w.heap.size = w.heap.size + 1) => by omega))
  clear h6 s6 e6
  refine wp_region_still_tail 2 (by kernel_rfl) (by kernel_rfl) ?_
  simp only [List.take_succ_cons, List.take_zero, List.drop_succ_cons, List.drop_zero]
  repeat still_step
  refine wpStill_nil ?_
  go_wp2_with (first
    | (refine arr_32.load rfl (.tmp 3) rfl (w.heap.size + 1) rfl (outK (endK (f, t) 6) 32) (by simp [outK]) HB6.out ?_)
    | (refine arr_32.store rfl (.tmp 2) (.tmp 18) rfl w.heap.size rfl (List.replicate 32 0) (outK (endK (f, t) 6) 32) rfl (by simp) (by simp [outK]) C06.out ?_; intro w7 h7 s7; have H7 := Lib.hid h7; clear h7))
  have hld := arr_32.run_load (by simp [outK]) H7.out
  refine bodyPost_ret (v := arrV (outK (endK (f, t) 6) 32)) (by simp [results, Tryd.results27, asAddr, Act.put, hld]) rfl ⟨rfl, ?_⟩
  refine stay_seal (X := fun k => w.heap.size ≤ k) ?_ (fun _ hk => hk)
  have h1 := HSZ.out
  have h2 := HZ4.out
  exact ((((HST.out.mono (fun _ x => x.elim)).trans (HST4.out.mono (fun k (e : k = W1.heap.size) => by omega))).trans (HST5.out.mono (fun k (e : k = w4.heap.size) => by omega))).trans (Stay.drew.trans (HST6.out.mono (fun k (e : k = w.heap.size + 1) => by omega)))).trans (s7.mono (fun k (e : k = w.heap.size) => by omega))
end Go.Proofs.YtljhfccaoncjeaaDoor.Ke
