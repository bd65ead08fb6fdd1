/-
  keccak: Sum of bytes; Text.
-/
import Derived.Test.YtljhfccaoncjeaaDoorKeJ
import Derived.Laws.MakeOwn
namespace Go.Proofs.YtljhfccaoncjeaaDoor.Ke
open Go.RowKit
set_option maxRecDepth 100000

theorem Slc.lt {w : World} {x : Value} {b : List UInt8} (h : Slc w x b) (h0 : 0 < b.length) : ∀ k, x.ownBlock = some k → k < w.heap.size := by
  intro k hk
  obtain ⟨a0, c, rfl, hr, _⟩ := h
  obtain ⟨ad, rfl, hc⟩ := hr h0
  have hk' : ad.block = k := by simpa [Value.ownBlock] using hk
  subst hk'
  obtain ⟨u, hu⟩ : ∃ u, (cellsB b)[0]? = some u := ⟨_, List.getElem?_eq_getElem (by rw [length_cellsB]; exact h0)⟩
  have := World.block_lt_of_cell? w _ (hc 0 u hu)
  have hb : (ad.add 0).block = ad.block := rfl
  rwa [hb] at this

set_option maxHeartbeats 1000000 in
theorem ksum_any (w : World) (x : Value) (b : List UInt8) (hx : Slc w x b) (hp : PathAt w) (hg0 : 2 < w.heap.size) :
    Calls Tryd.prog 17 #[x] w fun e w' => e = .returned (arrV (sumK b)) ∧ Stay (fun _ => False) w w' := by
  have p0 := BAt.new w 25 (List.replicate 32 0)
  have hw1 : Stay (fun _ => False) w (w.alloc (.cells (cellsB (List.replicate 32 0)).toArray 25)) := Stay.alloc _ _
  have hsz : (w.alloc (.cells (cellsB (List.replicate 32 0)).toArray 25)).heap.size = w.heap.size + 1 := by simp
  generalize hW1 : w.alloc (.cells (cellsB (List.replicate 32 0)).toArray 25) = W1 at *
  have HXL := Lib.hid (fun h0 k hk => Slc.lt hx h0 k hk)
  have HX := Lib.hid (hx.stay0 hw1)
  have HP := Lib.hid (hp.stay hw1 (fun x => x))
  have P0 := Lib.hid p0
  have HW1 := Lib.hid hW1
  have HST := Lib.hid hw1
  have HSZ := Lib.hid hsz
  have HG := Lib.hid hg0
  clear hx hp p0 hW1 hw1 hsz hg0
  go_enter Tryd.func17, Tryd.ntmps17
  go_wp2_with ((with_reducible refine arr_32.alloc rfl rfl ?_); try rw [HW1.out])
  refine (new_any _).mono ?_
  rintro e w2 ⟨rfl, hs2, st2⟩
  have hn1 : W1.heap.size ≠ 2 := by have := HG.out; have := HSZ.out; omega
  have HN1 := Lib.hid hn1
  have HS2 := Lib.hid hs2
  have HST2 := Lib.hid st2
  clear hn1 hs2 st2
  go_wp2_with fail
  refine (write_any w2 W1.heap.size (zeroSt, 0) x b HS2.out (by decide) (HP.out.stay HST2.out (fun x => x)) HN1.out (HX.out.stay0 HST2.out) (fun h0 k hk e => by have := HXL.out h0 k hk; have := HSZ.out; omega)).mono ?_
  rintro e w3 ⟨rfl, hs3, st3⟩
  have HS3 := Lib.hid hs3
  have HST3 := Lib.hid ((HST2.out.mono (Y := fun k => k = W1.heap.size) (fun _ x => x.elim)).trans st3)
  clear hs3 st3
  go_wp2_with fail
  refine (statesum_any w3 W1.heap.size _ _ HS3.out (eats_lt _ _ (by decide)) (HP.out.stay HST3.out (fun e => HN1.out e.symm)) (by have := HST3.out.size; have := HG.out; have := HSZ.out; omega)).mono ?_
  rintro e w4 ⟨rfl, st4⟩
  have HST4 := Lib.hid (HST3.out.trans (st4.mono (fun _ x => x.elim)))
  have B0 := Lib.hid (P0.out.stay HST4.out (fun (e : w.heap.size = W1.heap.size) => by have := HSZ.out; omega))
  clear st4
  go_wp2_with (refine arr_32.store rfl (.tmp 2) (.tmp 9) rfl w.heap.size rfl (List.replicate 32 0) (sumK b) rfl (by simp) (by simp [sumK, fromK, outK]) B0.out ?_; intro w7 h7 s7; have H7 := Lib.hid h7; clear h7)
  have hld := arr_32.run_load (by simp [sumK, fromK, outK]) H7.out
  refine bodyPost_ret (v := arrV (sumK b)) (by simp [results, Tryd.results17, asAddr, Act.put, hld]) rfl ⟨rfl, ?_⟩
  refine stay_seal (X := fun k => w.heap.size ≤ k) ?_ (fun _ hk => hk)
  have h1 := HSZ.out
  exact ((HST.out.mono (fun _ x => x.elim)).trans (HST4.out.mono (fun k (e : k = W1.heap.size) => by omega))).trans (s7.mono (fun k (e : k = w.heap.size) => by omega))
end Go.Proofs.YtljhfccaoncjeaaDoor.Ke
