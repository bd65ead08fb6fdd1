/-
  keccak: states in memory; xor, out.
-/
import Derived.Test.YtljhfccaoncjeaaDoorKeA
import Derived.StillTailTactics
import Derived.OneCell
import Derived.Laws.OwnMore
namespace Go.Proofs.YtljhfccaoncjeaaDoor.Ke
open Go.RowKit
set_option maxRecDepth 100000

def cellsU (f : St) (n : Nat) : List Value := (List.range n).map fun i => laneV (f i)
theorem length_cellsU (f : St) (n : Nat) : (cellsU f n).length = n := by simp [cellsU]
theorem cellsU_get (f : St) {i n : Nat} (h : i < n) : (cellsU f n)[i]? = some (laneV (f i)) := by simp [cellsU, h]
theorem cellsU_put (f : St) {i n : Nat} (h : i < n) (v : U) : (cellsU f n).set i (laneV v) = cellsU (put f i v) n := by
  apply List.ext_getElem?
  intro j
  rw [List.getElem?_set]
  by_cases e : i = j
  · subst e
    rw [if_pos rfl, if_pos (by rw [length_cellsU]; exact h), cellsU_get _ h]
    simp [put]
  · rw [if_neg e]
    by_cases hj : j < n
    · rw [cellsU_get _ hj, cellsU_get _ hj]
      unfold put
      rw [if_neg (fun x => e x.symm)]
    · rw [List.getElem?_eq_none (by rw [length_cellsU]; omega), List.getElem?_eq_none (by rw [length_cellsU]; omega)]
theorem cellsU_congr {f g : St} {n : Nat} (h : ∀ i, i < n → f i = g i) : cellsU f n = cellsU g n := by
  unfold cellsU
  exact List.map_congr_left (fun i hi => by rw [h i (List.mem_range.1 hi)])
theorem oneCell_cellsU (f : St) (n : Nat) : ∀ v ∈ cellsU f n, v.oneCell' = true := by
  intro v hv
  simp only [cellsU, List.mem_map] at hv
  obtain ⟨b, _, rfl⟩ := hv
  rfl

/-- A block whose first n cells are lanes. -/
def UAt (w : World) (g : Nat) (ty : TypeId) (n : Nat) (f : St) (l : List Value) : Prop := w.heap[g]? = some (.cells (cellsU f n ++ l).toArray ty (0, 0))
section
variable {w : World} {g : Nat} {ty : TypeId} {n : Nat} {f : St} {l : List Value}
theorem UAt.lt (h : UAt w g ty n f l) : g < w.heap.size := (Array.getElem?_eq_some_iff.1 h).1
theorem UAt.c (h : UAt w g ty n f l) {i : Nat} (hi : i < n) : w.cell? ⟨g, i, none⟩ = some (.int .u64 (nv (f i) : Int)) := by
  rw [cell_of_row w g i _ _ _ h]
  simp only [List.getElem?_toArray]
  rw [List.getElem?_append_left (by rw [length_cellsU]; exact hi), cellsU_get _ hi]
  rfl
theorem UAt.fr (h : UAt w g ty n f l) (i : Nat) : w.frozen? ⟨g, i, none⟩ = false := frozen_of_row w g i _ _ h
theorem UAt.set (h : UAt w g ty n f l) {i : Nat} (hi : i < n) (v : U) : UAt (w.setCell ⟨g, i, none⟩ (.int .u64 (nv v : Int))) g ty n (put f i v) l := by
  unfold UAt
  rw [heap_setCell_same w g i _ _ _ h]
  congr 2
  rw [← cellsU_put f hi v]
  simp only [List.setIfInBounds_toArray]
  rw [List.set_append, if_pos (by rw [length_cellsU]; exact hi)]
  rfl
theorem UAt.stay {X : Nat → Prop} {w' : World} (h : UAt w g ty n f l) (hs : Stay X w w') (hx : ¬ X g) : UAt w' g ty n f l := (hs.block g h.lt hx).trans h
theorem UAt.congr {f' : St} (h : UAt w g ty n f l) (e : ∀ i, i < n → f i = f' i) : UAt w g ty n f' l := by
  unfold UAt at *
  rw [← cellsU_congr e]
  exact h
end

/-- A state. -/
abbrev StAt (w : World) (g : Nat) (f : St) (t : Nat) : Prop := UAt w g 75 25 f [.int .i64 (t : Int)]
theorem StAt.taken {w : World} {g : Nat} {f : St} {t : Nat} (h : StAt w g f t) : w.cell? ⟨g, 25, none⟩ = some (.int .i64 (t : Int)) := by
  rw [cell_of_row w g 25 _ _ _ h]
  simp only [List.getElem?_toArray]
  rw [List.getElem?_append_right (by rw [length_cellsU]; decide), length_cellsU]
  rfl
theorem StAt.setT {w : World} {g : Nat} {f : St} {t : Nat} (h : StAt w g f t) (k : Nat) : StAt (w.setCell ⟨g, 25, none⟩ (.int .i64 (k : Int))) g f k := by
  unfold StAt UAt
  rw [heap_setCell_same w g 25 _ _ _ h]
  congr 2

theorem i64_small {n : Int} (h0 : 0 ≤ n) (h1 : n < 1000000) : IntKind.i64.wrap n = n := IntWalk.i64_in _ (by omega)

theorem wrap_byte (c : UInt8) : IntKind.u64.wrap (c.toNat : Int) = (nv (BitVec.ofNat 64 c.toNat) : Int) := by
  have := c.toNat_lt
  have e : nv (BitVec.ofNat 64 c.toNat) = c.toNat := by
    unfold nv
    rw [BitVec.toNat_ofNat]
    omega
  rw [e, wrap_u64]
  omega

set_option maxHeartbeats 400000 in
theorem xor_any (w : World) (g : Nat) (f : St) (t p : Nat) (c : UInt8) (hp : p < 200) (h : StAt w g f t) :
    Calls Tryd.prog 36 #[.pointer (some ⟨g, 0, none⟩), .int .i64 p, .int .u8 (c.toNat : Int)] w fun e w' => e = .returned (.tuple #[]) ∧ StAt w' g (xorB f p c) t ∧ Stay (· = g) w w' := by
  obtain ⟨q, hq⟩ : ∃ q, q = p / 8 := ⟨_, rfl⟩
  obtain ⟨r, hr⟩ : ∃ r, r = p % 8 := ⟨_, rfl⟩
  have hc := h.c (i := q) (by omega)
  have hf := h.fr q
  have H := Lib.hid h
  clear h
  have e1 : IntKind.i64.wrap ((p : Int) / 8) = (q : Int) := by rw [i64_small (by omega) (by omega)]; omega
  obtain ⟨s, hs⟩ : ∃ s, s = 8 * r := ⟨_, rfl⟩
  have e3 : (p : Int).tmod 8 = (r : Int) := by rw [Int.tmod_eq_emod_of_nonneg (by omega)]; omega
  have e4 : IntKind.i64.wrap (8 * (r : Int)) = (s : Int) := by rw [i64_small (by omega) (by omega)]; omega
  obtain ⟨cu, hcu⟩ : ∃ cu : U, cu = BitVec.ofNat 64 c.toNat := ⟨_, rfl⟩
  have e5 : IntKind.u64.wrap (c.toNat : Int) = (nv cu : Int) := by subst hcu; exact wrap_byte c
  have s1 : (s : Int) < 64 := by omega
  have H4 := Lib.hid hs
  have H5 := Lib.hid hcu
  have q1 : (q : Int) < 25 := by omega
  have r1 : (r : Int) < 8 := by omega
  have H1 := Lib.hid hq
  have H2 := Lib.hid hr
  have H3 := Lib.hid hp
  clear hq hr hp hs hcu
  go_enter Tryd.func36, Tryd.ntmps36
  refine wp_region_still_tail 15 (by kernel_rfl) (by kernel_rfl) ?_
  simp only [List.take_succ_cons, List.take_zero, List.drop_succ_cons, List.drop_zero]
  repeat still_step
  rw [shl_nv, xor_nv]
  refine wpStill_nil ?_
  go_wp2
  refine bodyPost_end (results_none rfl _ _ _) rfl ?_
  refine ⟨rfl, ?_, (Stay.setCell (X := fun k => k = g) w _ _ rfl).trans Stay.drew⟩
  have e := (show UAt w g _ 25 f _ from H.out).set (i := q) (by omega) (f q ^^^ cu <<< s)
  rw [H4.out, H5.out, H2.out, H1.out] at e
  rw [H4.out, H5.out, H2.out, H1.out]
  exact e
end Go.Proofs.YtljhfccaoncjeaaDoor.Ke
