import Derived.Test.YtahfgoafiepioaaGreatDoorGaB
import Derived.Test.YtahfgoafiepioaaGreatDoorGaK
import Derived.Lib.SmallJoins
import Derived.Test.YtahfgoafiepioaaGreatDoorHeldS
import Derived.Test.YtahfgoafiepioaaGreatDoorDeNar
/-
  bloom's laws: what must come whatever the input is.
-/
namespace Go.Proofs.YtahfgoafiepioaaGreatDoor.Bo
open Go.RowKit Pk
set_option maxRecDepth 100000

theorem sure_bits : bitsN 8 1 [97] = [2] := by decide
theorem sure_full : fullB (addB (List.replicate 8 false) [2]) = 1 := by decide
end Go.Proofs.YtahfgoafiepioaaGreatDoor.Bo

/-
  bloom's laws: their arguments opened: a size, a key, keys.
-/
namespace Go.Proofs.YtahfgoafiepioaaGreatDoor.Bo
open Go.ChangeShapes Go.WideShapes Go.ChangeAt Go.RowKit Go.Deep Pk
set_option maxRecDepth 100000

theorem cells_size : Tryz.prog.cellsOf 24 = 2 := by kernel_rfl
theorem cells_one : Tryz.prog.cellsOf 3 = 1 := by kernel_rfl
theorem i64_of {x : Int} (h : (Lit.int .i64 x).wf = true) : -9223372036854775808 ≤ x ∧ x ≤ 9223372036854775807 := by
  have e1 : IntKind.i64.min = -9223372036854775808 := by decide
  have e2 : IntKind.i64.max = 9223372036854775807 := by decide
  simp only [Lit.wf, Bool.and_eq_true, decide_eq_true_eq] at h
  rw [e1, e2] at h
  exact h
section
variable {H : Type} {enc : TypeId × Value → H}
theorem open_size {w : World} {base b0 : Nat} {r : Reach} {v : Value} {d : DataW H} {p : List MemPlace} (hv : Value.okWide Tryz.prog w r b0 24 v) (h : DataW.Trod enc Tryz.prog w base (fun _ => true) true 24 v d p) :
    ∃ x0 x1 : Int, v = .agg #[.int .i64 x0, .int .i64 x1] ∧ (Lit.int .i64 x0).wf = true ∧ (Lit.int .i64 x1).wf = true := by
  obtain ⟨cs, rfl, hsz⟩ : ∃ cs, v = .agg cs ∧ cs.size = Tryz.prog.cellsOf 24 := by
    have := hv
    simp only [Value.okWide, Tryz.underlying24] at this
    obtain ⟨cs, e, hs, _⟩ := this
    exact ⟨cs, e, hs⟩
  rw [cells_size] at hsz
  obtain ⟨l⟩ := cs
  obtain ⟨c0, c1, rfl⟩ : ∃ a b, l = [a, b] := by
    match l, hsz with
    | [a, b], _ => exact ⟨a, b, rfl⟩
  obtain ⟨fuel, hf⟩ := h
  obtain ⟨y0, y1, m, hx, _, hy0, hy1⟩ := trod_struct2 Tryz.underlying24 hf
  obtain ⟨x0, e0, rfl, w0⟩ := DataW.trod_int Tryz.underlying3 hy0
  obtain ⟨x1, e1, rfl, w1⟩ := DataW.trod_int Tryz.underlying3 hy1
  have hc1 : Tryz.prog.cellsOf 3 = 1 := cells_one
  simp [hc1, Value.cells] at e0 e1
  exact ⟨x0, x1, by rw [e0, e1], w0, w1⟩

theorem str_is (s : ByteArray) : Value.string s = strV s.data.toList := rfl
theorem key_weight {d : DataW H} {k : List UInt8} (hd : d = .lit (.string k)) (hw : (d.weights Tryz.prog 9).all (· ≤ reachBytes) = true) : k.length ≤ 140737488351232 := by
  subst hd
  simp only [DataW.weights, List.all_cons, List.all_nil, Bool.and_true, decide_eq_true_eq] at hw
  exact hw
theorem key_cells {w : World} {fuel : Nat} {cs : List Value} {x : DataW H × List MemPlace} (h : DataW.trod enc Tryz.prog w 0 (fun _ => true) true fuel 9 cs = some x) : ∃ k : List UInt8, cs = [strV k] ∧ x.1 = .lit (.string k) ∧ k.length ≤ 9223372036854775807 := by
  obtain ⟨s, e, e2, hm⟩ := DataW.trod_string Tryz.underlying9 h
  have hl : s.data.toList.length = s.size := Array.length_toList
  exact ⟨s.data.toList, e, congrArg Prod.fst e2, by rw [hl]; unfold maxLen at hm; omega⟩
theorem open_key {w : World} {b0 : Nat} {r : Reach} {d : DataW H} {p : List MemPlace} {v : Value} (hv : Value.okWide Tryz.prog w r b0 9 v) (h : DataW.Trod enc Tryz.prog w 0 (fun _ => true) true 9 v d p) :
    ∃ k : List UInt8, v = strV k ∧ k.length ≤ 9223372036854775807 ∧ ((d.weights Tryz.prog 9).all (· ≤ reachBytes) = true → k.length ≤ 140737488351232) := by
  obtain ⟨fuel, hf⟩ := h
  obtain ⟨k, e, e2, hl⟩ := key_cells hf
  obtain ⟨s, rfl⟩ : ∃ s, v = .string s := by
    cases v <;> first | exact ⟨_, rfl⟩ | (exfalso; simp [Value.cells, strV] at e; done) | (exfalso; simp [Value.okWide, Cell.okWide, Cell.ok, Tryz.underlying9] at hv; done)
  have e3 : Value.string s = strV k := by
    have e4 : [Value.string s] = [strV k] := e
    simpa using e4
  exact ⟨k, e3, hl, key_weight e2⟩

/-- Keys: a slice of texts. -/
def Keys (w : World) (a0 : Option Addr) (ks : List (List UInt8)) : Prop :=
  ks.length ≤ 9223372036854775807 ∧ (0 < ks.length → ∃ lb lo, a0 = some ⟨lb, lo, none⟩ ∧ lb < w.heap.size ∧ ∀ i k, ks[i]? = some k → w.cell? ⟨lb, lo + i, none⟩ = some (strV k))
theorem cells_str : Tryz.prog.cellsOf 9 = 1 := by kernel_rfl
theorem weights_in {e : TypeId} {l : List (DataW H)} {d : DataW H} (hd : d ∈ l) {n : Nat} (h : (DataW.weightsAll Tryz.prog e l).all (· ≤ n) = true) : (d.weights Tryz.prog e).all (· ≤ n) = true := by
  induction l with
  | nil => cases hd
  | cons x r ih =>
    rw [DataW.weightsAll, List.all_append, Bool.and_eq_true] at h
    rcases List.mem_cons.1 hd with rfl | hd
    · exact h.1
    · exact ih hd h.2
theorem weights_each {ts : List TypeId} {ds : List (DataW H)} {n : Nat} (hsz : (DataW.weightsEach Tryz.prog ts ds).all (· ≤ n) = true) {j : Nat} {t : TypeId} {d : DataW H} (ht : ts[j]? = some t) (hd : ds[j]? = some d) : (d.weights Tryz.prog t).all (· ≤ n) = true := by
  induction ts generalizing ds j with
  | nil => simp at ht
  | cons t0 ts ih =>
    cases ds with
    | nil => simp at hd
    | cons d0 ds =>
      rw [DataW.weightsEach, List.all_append, Bool.and_eq_true] at hsz
      cases j with
      | zero =>
        simp at ht hd
        subst ht hd
        exact hsz.1
      | succ j => exact ih hsz.2 (by simpa using ht) (by simpa using hd)
theorem open_keys {w : World} {d : DataW H} {p : List MemPlace} {a0 : Option Addr} {n c : Nat} (h : DataW.Trod enc Tryz.prog w 0 (fun _ => true) true 40 (.slice a0 n c) d p) :
    ∃ ks : List (List UInt8), n = ks.length ∧ Keys w a0 ks ∧ ((d.weights Tryz.prog 40).all (· ≤ reachBytes) = true → ∀ k ∈ ks, k.length ≤ 140737488351232) := by
  obtain ⟨fuel, hf⟩ := h
  have hf' : DataW.trod enc Tryz.prog w 0 (fun _ => true) true fuel 40 [.slice a0 n c] = some (d, p) := hf
  rcases open_slice1 Tryz.underlying40 cells_str hf' with ⟨h0, _⟩ | ⟨a, len, cap, m, q, V, D, Pl, h0, _, hl, hm, hmm, hd, hx⟩
  · simp at h0
    obtain ⟨rfl, rfl, rfl⟩ := h0
    exact ⟨[], rfl, ⟨by decide, fun h => by simp at h⟩, fun _ k hk => by simp at hk⟩
  · simp at h0
    obtain ⟨rfl, rfl, rfl⟩ := h0
    simp only [if_true] at hmm
    subst hmm
    cases hd
    obtain ⟨T, hT⟩ := choose_lt (α := List UInt8) (n := n) (p := fun i t => w.cell? (a.add i) = some (strV t) ∧ D i = .lit (.string t)) (fun i hi => by
      obtain ⟨h1, h2⟩ := hx i (by omega)
      obtain ⟨k, e, e2, _⟩ := key_cells h2
      have e3 : V i = strV k := by simpa using e
      exact ⟨k, by rw [h1, e3], e2⟩)
    have hln : ((List.range n).map T).length = n := by simp
    unfold maxLen at hm
    refine ⟨(List.range n).map T, hln.symm, ⟨by rw [hln]; omega, fun h0 => ?_⟩, fun hw k hk => ?_⟩
    · rw [hln] at h0
      have h1 := (hT 0 h0).1
      have e0 : a.add 0 = a := rfl
      rw [e0] at h1
      have ha : a = ⟨a.block, a.off, none⟩ := by
        obtain ⟨b, o, sp⟩ := a
        cases sp with
        | none => rfl
        | some q =>
          have : w.cell? ⟨b, o, some q⟩ = none := by unfold World.cell?; split <;> simp
          rw [this] at h1; cases h1
      refine ⟨a.block, a.off, by rw [← ha], World.block_lt_of_cell? w a h1, fun i k hk => ?_⟩
      have hi : i < n := by
        have := (List.getElem?_eq_some_iff.1 hk).1
        rwa [hln] at this
      have hk2 : k = T i := by simpa [hi] using hk.symm
      have h2 := (hT i hi).1
      rw [ha, add_at] at h2
      rw [hk2]
      exact h2
    · obtain ⟨i, hi, rfl⟩ := List.mem_map.1 hk
      have hi := List.mem_range.1 hi
      simp only [DataW.weights, Tryz.underlying40, List.all_cons, List.all_append, Bool.and_eq_true] at hw
      exact key_weight (hT i hi).2 (weights_in (List.mem_map_of_mem (f := D) (List.mem_range.2 hi)) hw.2.1)
end
end Go.Proofs.YtahfgoafiepioaaGreatDoor.Bo

/-
  bloom's laws: sizes made small; a size in its box.
-/
namespace Go.Proofs.YtahfgoafiepioaaGreatDoor.Bo
open Go.RowKit Pk
set_option maxRecDepth 100000

theorem i64_wrap (x : Int) : IntKind.i64.wrap x = wrap64 x := by
  rw [IntKind.wrap_i64]
  unfold wrap64
  omega
theorem u64_in (x : Int) : 0 ≤ IntKind.u64.wrap x ∧ IntKind.u64.wrap x ≤ 18446744073709551615 := by
  rw [IntKind.wrap_u64]
  omega
theorem small_300 (x : Int) : ∃ s : Nat, wrap64 (1 + wrap64 ((IntKind.u64.wrap x).tmod 300)) = (s : Int) ∧ 1 ≤ s ∧ s ≤ 300 := by
  obtain ⟨h0, h1⟩ := u64_in x
  rw [Int.tmod_eq_emod_of_nonneg h0]
  generalize IntKind.u64.wrap x = u at *
  refine ⟨(1 + u % 300).toNat, ?_, by omega, by omega⟩
  rw [wrap_small (u % 300) (by omega) (by omega), wrap_small _ (by omega) (by omega)]
  omega
theorem small_16 (x : Int) : ∃ s : Nat, wrap64 (1 + wrap64 ((IntKind.u64.wrap x).tmod 16)) = (s : Int) ∧ 1 ≤ s ∧ s ≤ 16 := by
  obtain ⟨h0, h1⟩ := u64_in x
  rw [Int.tmod_eq_emod_of_nonneg h0]
  generalize IntKind.u64.wrap x = u at *
  refine ⟨(1 + u % 16).toNat, ?_, by omega, by omega⟩
  rw [wrap_small (u % 16) (by omega) (by omega), wrap_small _ (by omega) (by omega)]
  omega
/-- A size in its box. -/
def SzAt (w : World) (g : Nat) (x0 x1 : Int) : Prop := w.heap[g]? = some (.cells #[.int .i64 x0, .int .i64 x1] 24 (0, 0))
theorem SzAt.lt {w : World} {g : Nat} {x0 x1 : Int} (h : SzAt w g x0 x1) : g < w.heap.size := lt_of_block h
theorem SzAt.stay {X : Nat → Prop} {w w' : World} {g : Nat} {x0 x1 : Int} (h : SzAt w g x0 x1) (hs : Stay X w w') (hx : ¬ X g) : SzAt w' g x0 x1 := (hs.block g h.lt hx).trans h
theorem SzAt.stay0 {w w' : World} {g : Nat} {x0 x1 : Int} (h : SzAt w g x0 x1) (hs : Stay (fun _ => False) w w') : SzAt w' g x0 x1 := h.stay hs (fun x => x)
theorem SzAt.c0 {w : World} {g : Nat} {x0 x1 : Int} (h : SzAt w g x0 x1) : w.cell? ⟨g, 0, none⟩ = some (.int .i64 x0) := by rw [cell_of_row w g 0 _ _ _ h]; rfl
theorem SzAt.c1 {w : World} {g : Nat} {x0 x1 : Int} (h : SzAt w g x0 x1) : w.cell? ⟨g, 1, none⟩ = some (.int .i64 x1) := by rw [cell_of_row w g 1 _ _ _ h]; rfl
theorem Keys.at {w : World} {a0 : Option Addr} {ks : List (List UInt8)} (h : Keys w a0 ks) (h0 : 0 < ks.length) : ∃ lb lo, a0 = some ⟨lb, lo, none⟩ ∧ lb < w.heap.size ∧ ∀ W X, Stay X w W → ¬ X lb → ∀ i k, ks[i]? = some k → W.cell? ⟨lb, lo + i, none⟩ = some (strV k) := by
  obtain ⟨lb, lo, e, hlt, hc⟩ := h.2 h0
  exact ⟨lb, lo, e, hlt, fun W X hs hX i k hk => hs.cell (hc i k hk) hX⟩
theorem FAt.mem_ne {w : World} {p g q : Nat} {B : List Bool} (h : FAt w p g q B) : p ≠ g := h.ne
end Go.Proofs.YtahfgoafiepioaaGreatDoor.Bo

