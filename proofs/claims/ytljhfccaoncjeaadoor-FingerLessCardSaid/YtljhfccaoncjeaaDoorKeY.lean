/-
  keccak, the document's: Sum, Shake.
-/
import Derived.Test.YtljhfccaoncjeaaDoorKeU
namespace Go.Proofs.YtljhfccaoncjeaaDoor.Ke
open Go.RowKit
set_option maxRecDepth 100000

set_option maxHeartbeats 1000000 in
theorem rsum_any (w : World) (x : Value) (b : List UInt8) (hx : Slc w x b) (hlen : b.length ≤ 1048576) :
    Calls Tryd.prog 16 #[x] w fun e w' => e = .returned (arrV (sumK b)) ∧ Stay (fun _ => False) w w' := by
  have p0 := BAt.new w 25 (List.replicate 32 0)
  have hw1 : Stay (fun _ => False) w ((w.alloc (.cells (cellsB (List.replicate 32 0)).toArray 25)).alloc (.cells (cellsB (List.replicate 32 0)).toArray 25)) := (Stay.alloc _ _).trans (Stay.alloc _ _)
  have p1 := BAt.new (w.alloc (.cells (cellsB (List.replicate 32 0)).toArray 25)) 25 (List.replicate 32 0)
  rw [show (w.alloc (.cells (cellsB (List.replicate 32 0)).toArray 25)).heap.size = w.heap.size + 1 by simp] at p1
  have p0' := p0.stay (Stay.alloc (X := fun _ => False) _ (.cells (cellsB (List.replicate 32 0)).toArray 25)) (fun x => x)
  have hsz : ((w.alloc (.cells (cellsB (List.replicate 32 0)).toArray 25)).alloc (.cells (cellsB (List.replicate 32 0)).toArray 25)).heap.size = w.heap.size + 2 := by simp
  generalize hW1 : (w.alloc (.cells (cellsB (List.replicate 32 0)).toArray 25)).alloc (.cells (cellsB (List.replicate 32 0)).toArray 25) = W1 at *
  have HX := Lib.hid (hx.stay0 hw1)
  have HLN := Lib.hid hlen
  have P0 := Lib.hid p0'
  have P1 := Lib.hid p1
  have HW1 := Lib.hid hW1
  have HST := Lib.hid hw1
  have HSZ := Lib.hid hsz
  clear hx hlen p0 p0' p1 hW1 hw1 hsz
  go_enter Tryd.func16, Tryd.ntmps16
  go_wp2_with ((with_reducible refine arr_32.alloc rfl rfl ?_); try rw [HW1.out])
  refine (rout_any W1 x b 6 32 HX.out HLN.out (by omega)).mono ?_
  rintro e w2 ⟨v2, rfl, ho2, s2⟩
  have hl : (fromK b 6 32).length = 32 := by simp [fromK, outK]
  obtain ⟨g, cap, rfl, hcap, hcm⟩ := ho2.at (by rw [hl]; omega)
  rw [hl] at ho2 hcap ⊢
  obtain ⟨l, hll⟩ : ∃ l, l = fromK b 6 32 := ⟨_, rfl⟩
  rw [← hll] at ho2 hl
  have hgl := ho2.lt g rfl
  have HO := Lib.hid (show w2.ownsRow W1.heap.size 5 1 (.slice (some ⟨g, 0, none⟩) 32 cap) 32 (cellsB l) by unfold Owns at ho2; rw [hl] at ho2; exact ho2)
  have HGL := Lib.hid hgl
  have HL := Lib.hid hl
  have HLL := Lib.hid hll
  have B0 := Lib.hid (P0.out.stay s2 (fun x => x))
  have B1 := Lib.hid (P1.out.stay s2 (fun x => x))
  have HS2 := Lib.hid (HST.out.trans s2)
  clear ho2 hcap hcm hl hll hgl s2
  go_wp2_with fail
  go_loopw [5] (fun i wr => ∃ k : Nat, k ≤ 32 ∧ i = .int .i64 (k : Int) ∧ BAt wr (w.heap.size + 1) 25 (fill (fun i => l.getD i 0) k 32) ∧ Stay (fun k => k = w.heap.size + 1) w2 wr) (fun i _ => 32 - (intOf i).toNat)
  case atStart => exact ⟨0, by omega, rfl, by rw [fill_none]; exact B1.out, Stay.refl _ _⟩
  case round =>
    obtain ⟨k, hk, rfl, hb, hst⟩ := hrel
    by_cases hlt : k < 32
    · obtain ⟨c, hc⟩ : ∃ c, l[k]? = some c := ⟨_, List.getElem?_eq_getElem (by rw [HL.out]; exact hlt)⟩
      have cl : wr.cell? ⟨g, k, none⟩ = some (.int .u8 (c.toNat : Int)) := hst.cell (by
        rw [World.ownsRow.cellAt HO.out k (by omega)]
        unfold cellsB
        rw [List.getElem?_map, hc]
        rfl) (fun (e : g = w.heap.size + 1) => by have := HGL.out.1; have := HSZ.out; omega)
      have cb := hb.c k
      rw [show (cellsB (fill (fun i => l.getD i 0) k 32))[k]? = some (.int .u8 0) by simp [cellsB, fill, hlt, byteV]] at cb
      have fb := hb.fr k
      have b4 : (k : Int) < 32 := by omega
      have HB := Lib.hid hb
      have HSTT := Lib.hid hst
      have HLT := Lib.hid hlt
      have HC := Lib.hid (show (c.toNat : Int) = (((fun i => l.getD i 0) k).toNat : Int) by simp only [List.getD_eq_getElem?_getD]; rw [hc]; rfl)
      clear hb hst hlt hc
      go_wp2
      have hl := HLT.out
      have hb1 := HB.out.fill hl _ HC.out
      first
        | exact ⟨⟨k + 1, by omega, by go_num, hb1, HSTT.out.trans (stay_set _ _ _ _)⟩, by simp [intOf]; omega⟩
        | (go_round
           case rel => exact ⟨k + 1, by omega, by go_num, hb1, HSTT.out.trans (stay_set _ _ _ _)⟩
           case measure => simp [intOf]; omega)
    · obtain rfl : k = 32 := by omega
      have hsum : fill (fun i => l.getD i 0) 32 32 = sumK b := by
        rw [fill_all]
        have hh := HL.out
        rw [show sumK b = l from HLL.out.symm]
        apply List.ext_getElem?
        intro i
        by_cases h : i < 32
        · simp [h, List.getD_eq_getElem?_getD, List.getElem?_eq_getElem (show i < l.length by omega)]
        · rw [List.getElem?_eq_none (by simp; omega), List.getElem?_eq_none (by omega)]
      rw [hsum] at hb
      have HB := Lib.hid hb
      have B09 := Lib.hid (B0.out.stay hst (fun (e : w.heap.size = w.heap.size + 1) => by omega))
      have HSTT := Lib.hid hst
      clear hb hst hsum
      go_wp2_with (first
        | (refine arr_32.load rfl (.tmp 3) rfl (w.heap.size + 1) rfl (sumK b) (by simp [sumK, fromK, outK]) HB.out ?_)
        | (refine arr_32.store rfl (.tmp 2) (.tmp 18) rfl w.heap.size rfl (List.replicate 32 0) (sumK b) rfl (by simp) (by simp [sumK, fromK, outK]) B09.out ?_; intro w7 h7 s7; have H7 := Lib.hid h7; clear h7))
      have hld := arr_32.run_load (by simp [sumK, fromK, outK]) H7.out
      refine bodyPost_ret (v := arrV (sumK b)) (by simp [results, Tryd.results16, asAddr, Act.put, hld]) rfl ⟨rfl, ?_⟩
      refine stay_seal (X := fun k => w.heap.size ≤ k) ?_ (fun _ hk => hk)
      exact ((HS2.out.mono (fun _ x => x.elim)).trans (HSTT.out.mono (fun k (e : k = w.heap.size + 1) => by omega))).trans (s7.mono (fun k (e : k = w.heap.size) => by omega))
end Go.Proofs.YtljhfccaoncjeaaDoor.Ke
