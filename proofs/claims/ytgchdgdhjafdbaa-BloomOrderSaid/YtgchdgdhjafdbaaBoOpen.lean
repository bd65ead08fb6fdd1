/-
  bloom's laws: their arguments opened: a size, a key, keys.
-/
import Derived.Test.YtgchdgdhjafdbaaPkOpen
import Derived.Test.YtgchdgdhjafdbaaPkF
import Derived.Test.YtgchdgdhjafdbaaBoP
import Derived.Lib.SmallJoins
namespace Go.Proofs.Ytgchdgdhjafdbaa.Bo
open Go.ChangeShapes Go.WideShapes Go.ChangeAt Go.RowKit Go.Deep Pk
set_option maxRecDepth 100000

theorem cells_size : Try.prog.cellsOf 23 = 2 := by kernel_rfl
theorem cells_one : Try.prog.cellsOf 3 = 1 := by kernel_rfl
theorem i64_of {x : Int} (h : (Lit.int .i64 x).wf = true) : -9223372036854775808 ≤ x ∧ x ≤ 9223372036854775807 := by
  have e1 : IntKind.i64.min = -9223372036854775808 := by decide
  have e2 : IntKind.i64.max = 9223372036854775807 := by decide
  simp only [Lit.wf, Bool.and_eq_true, decide_eq_true_eq] at h
  rw [e1, e2] at h
  exact h
section
variable {H : Type} {enc : TypeId × Value → H}
theorem open_size {w : World} {base b0 : Nat} {r : Reach} {v : Value} {d : DataW H} {p : List MemPlace} (hv : Value.okWide Try.prog w r b0 23 v) (h : DataW.Trod enc Try.prog w base (fun _ => true) true 23 v d p) :
    ∃ x0 x1 : Int, v = .agg #[.int .i64 x0, .int .i64 x1] ∧ (Lit.int .i64 x0).wf = true ∧ (Lit.int .i64 x1).wf = true := by
  obtain ⟨cs, rfl, hsz⟩ : ∃ cs, v = .agg cs ∧ cs.size = Try.prog.cellsOf 23 := by
    have := hv
    simp only [Value.okWide, Try.underlying23] at this
    obtain ⟨cs, e, hs, _⟩ := this
    exact ⟨cs, e, hs⟩
  rw [cells_size] at hsz
  obtain ⟨l⟩ := cs
  obtain ⟨c0, c1, rfl⟩ : ∃ a b, l = [a, b] := by
    match l, hsz with
    | [a, b], _ => exact ⟨a, b, rfl⟩
  obtain ⟨fuel, hf⟩ := h
  obtain ⟨y0, y1, m, hx, _, hy0, hy1⟩ := trod_struct2 Try.underlying23 hf
  obtain ⟨x0, e0, rfl, w0⟩ := DataW.trod_int Try.underlying3 hy0
  obtain ⟨x1, e1, rfl, w1⟩ := DataW.trod_int Try.underlying3 hy1
  have hc1 : Try.prog.cellsOf 3 = 1 := cells_one
  simp [hc1, Value.cells] at e0 e1
  exact ⟨x0, x1, by rw [e0, e1], w0, w1⟩

theorem str_is (s : ByteArray) : Value.string s = strV s.data.toList := rfl
theorem key_weight {d : DataW H} {k : List UInt8} (hd : d = .lit (.string k)) (hw : (d.weights Try.prog 9).all (· ≤ reachBytes) = true) : k.length ≤ 140737488351232 := by
  subst hd
  simp only [DataW.weights, List.all_cons, List.all_nil, Bool.and_true, decide_eq_true_eq] at hw
  exact hw
theorem key_cells {w : World} {fuel : Nat} {cs : List Value} {x : DataW H × List MemPlace} (h : DataW.trod enc Try.prog w 0 (fun _ => true) true fuel 9 cs = some x) : ∃ k : List UInt8, cs = [strV k] ∧ x.1 = .lit (.string k) ∧ k.length ≤ 9223372036854775807 := by
  obtain ⟨s, e, e2, hm⟩ := DataW.trod_string Try.underlying9 h
  have hl : s.data.toList.length = s.size := Array.length_toList
  exact ⟨s.data.toList, e, congrArg Prod.fst e2, by rw [hl]; unfold maxLen at hm; omega⟩
theorem open_key {w : World} {b0 : Nat} {r : Reach} {d : DataW H} {p : List MemPlace} {v : Value} (hv : Value.okWide Try.prog w r b0 9 v) (h : DataW.Trod enc Try.prog w 0 (fun _ => true) true 9 v d p) :
    ∃ k : List UInt8, v = strV k ∧ k.length ≤ 9223372036854775807 ∧ ((d.weights Try.prog 9).all (· ≤ reachBytes) = true → k.length ≤ 140737488351232) := by
  obtain ⟨fuel, hf⟩ := h
  obtain ⟨k, e, e2, hl⟩ := key_cells hf
  obtain ⟨s, rfl⟩ : ∃ s, v = .string s := by
    cases v <;> first | exact ⟨_, rfl⟩ | (exfalso; simp [Value.cells, strV] at e; done) | (exfalso; simp [Value.okWide, Cell.okWide, Cell.ok, Try.underlying9] at hv; done)
  have e3 : Value.string s = strV k := by
    have e4 : [Value.string s] = [strV k] := e
    simpa using e4
  exact ⟨k, e3, hl, key_weight e2⟩

/-- Keys: a slice of texts. -/
def Keys (w : World) (a0 : Option Addr) (ks : List (List UInt8)) : Prop :=
  ks.length ≤ 9223372036854775807 ∧ (0 < ks.length → ∃ lb lo, a0 = some ⟨lb, lo, none⟩ ∧ lb < w.heap.size ∧ ∀ i k, ks[i]? = some k → w.cell? ⟨lb, lo + i, none⟩ = some (strV k))
theorem cells_str : Try.prog.cellsOf 9 = 1 := by kernel_rfl
theorem weights_in {e : TypeId} {l : List (DataW H)} {d : DataW H} (hd : d ∈ l) {n : Nat} (h : (DataW.weightsAll Try.prog e l).all (· ≤ n) = true) : (d.weights Try.prog e).all (· ≤ n) = true := by
  induction l with
  | nil => cases hd
  | cons x r ih =>
    rw [DataW.weightsAll, List.all_append, Bool.and_eq_true] at h
    rcases List.mem_cons.1 hd with rfl | hd
    · exact h.1
    · exact ih hd h.2
theorem weights_each {ts : List TypeId} {ds : List (DataW H)} {n : Nat} (hsz : (DataW.weightsEach Try.prog ts ds).all (· ≤ n) = true) {j : Nat} {t : TypeId} {d : DataW H} (ht : ts[j]? = some t) (hd : ds[j]? = some d) : (d.weights Try.prog t).all (· ≤ n) = true := by
  induction ts generalizing ds j with
  | nil => simp at ht
  | cons t0 ts ih =>
    cases ds with
    | nil => simp at hd
    | cons d0 ds =>
      rw [DataW.weightsEach, List.all_append, Bool.and_eq_true] at hsz
      cases j with
      | zero =>
        simp at ht hd
        subst ht hd
        exact hsz.1
      | succ j => exact ih hsz.2 (by simpa using ht) (by simpa using hd)
theorem open_keys {w : World} {d : DataW H} {p : List MemPlace} {a0 : Option Addr} {n c : Nat} (h : DataW.Trod enc Try.prog w 0 (fun _ => true) true 24 (.slice a0 n c) d p) :
    ∃ ks : List (List UInt8), n = ks.length ∧ Keys w a0 ks ∧ ((d.weights Try.prog 24).all (· ≤ reachBytes) = true → ∀ k ∈ ks, k.length ≤ 140737488351232) := by
  obtain ⟨fuel, hf⟩ := h
  have hf' : DataW.trod enc Try.prog w 0 (fun _ => true) true fuel 24 [.slice a0 n c] = some (d, p) := hf
  rcases open_slice1 Try.underlying24 cells_str hf' with ⟨h0, _⟩ | ⟨a, len, cap, m, q, V, D, Pl, h0, _, hl, hm, hmm, hd, hx⟩
  · simp at h0
    obtain ⟨rfl, rfl, rfl⟩ := h0
    exact ⟨[], rfl, ⟨by decide, fun h => by simp at h⟩, fun _ k hk => by simp at hk⟩
  · simp at h0
    obtain ⟨rfl, rfl, rfl⟩ := h0
    simp only [if_true] at hmm
    subst hmm
    cases hd
    obtain ⟨T, hT⟩ := choose_lt (α := List UInt8) (n := n) (p := fun i t => w.cell? (a.add i) = some (strV t) ∧ D i = .lit (.string t)) (fun i hi => by
      obtain ⟨h1, h2⟩ := hx i (by omega)
      obtain ⟨k, e, e2, _⟩ := key_cells h2
      have e3 : V i = strV k := by simpa using e
      exact ⟨k, by rw [h1, e3], e2⟩)
    have hln : ((List.range n).map T).length = n := by simp
    unfold maxLen at hm
    refine ⟨(List.range n).map T, hln.symm, ⟨by rw [hln]; omega, fun h0 => ?_⟩, fun hw k hk => ?_⟩
    · rw [hln] at h0
      have h1 := (hT 0 h0).1
      have e0 : a.add 0 = a := rfl
      rw [e0] at h1
      have ha : a = ⟨a.block, a.off, none⟩ := by
        obtain ⟨b, o, sp⟩ := a
        cases sp with
        | none => rfl
        | some q =>
          have : w.cell? ⟨b, o, some q⟩ = none := by unfold World.cell?; split <;> simp
          rw [this] at h1; cases h1
      refine ⟨a.block, a.off, by rw [← ha], World.block_lt_of_cell? w a h1, fun i k hk => ?_⟩
      have hi : i < n := by
        have := (List.getElem?_eq_some_iff.1 hk).1
        rwa [hln] at this
      have hk2 : k = T i := by simpa [hi] using hk.symm
      have h2 := (hT i hi).1
      rw [ha, add_at] at h2
      rw [hk2]
      exact h2
    · obtain ⟨i, hi, rfl⟩ := List.mem_map.1 hk
      have hi := List.mem_range.1 hi
      simp only [DataW.weights, Try.underlying24, List.all_cons, List.all_append, Bool.and_eq_true] at hw
      exact key_weight (hT i hi).2 (weights_in (List.mem_map_of_mem (f := D) (List.mem_range.2 hi)) hw.2.1)
end
end Go.Proofs.Ytgchdgdhjafdbaa.Bo
