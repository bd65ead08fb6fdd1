/-
  mem's laws: their arguments opened: entries, a key.
-/
import Derived.Test.YtdfhjmodacjilaaMeM
import Derived.Deep.Strs
import Derived.Deep.Slices
import Derived.Lib.SmallJoins
import Derived.SizedLaws
import Derived.OpenShut
namespace Go.Proofs.Ytdfhjmodacjilaa.Me
open Go.ChangeShapes Go.WideShapes Go.ChangeAt Go.RowKit Go.Deep
set_option maxRecDepth 100000
set_option linter.unusedVariables false

instance : Inhabited En := ⟨⟨[], [], false⟩⟩
theorem cells_str : Try.prog.cellsOf 9 = 1 := by kernel_rfl
theorem cells_b : Try.prog.cellsOf 4 = 1 := by kernel_rfl
theorem cells_en : Try.prog.cellsOf 28 = 3 := by kernel_rfl
section
variable {H : Type} {enc : TypeId × Value → H}
theorem key_weight {d : DataW H} {k : List UInt8} (hd : d = .lit (.string k)) (hw : (d.weights Try.prog 9).all (· ≤ reachBytes) = true) : k.length ≤ 140737488351232 := by
  subst hd
  simp only [DataW.weights, List.all_cons, List.all_nil, Bool.and_true, decide_eq_true_eq] at hw
  exact hw
theorem key_cells {w : World} {fuel : Nat} {cs : List Value} {x : DataW H × List MemPlace} (h : DataW.trod enc Try.prog w 0 (fun _ => true) true fuel 9 cs = some x) : ∃ k : List UInt8, cs = [strV k] ∧ x.1 = .lit (.string k) ∧ k.length ≤ 9223372036854775807 := by
  obtain ⟨s, e, e2, hm⟩ := DataW.trod_string Try.underlying9 h
  have hl : s.data.toList.length = s.size := Array.length_toList
  exact ⟨s.data.toList, e, congrArg Prod.fst e2, by rw [hl]; unfold maxLen at hm; omega⟩
theorem open_key {w : World} {b0 : Nat} {r : Reach} {d : DataW H} {p : List MemPlace} {v : Value} (hv : Value.okWide Try.prog w r b0 9 v) (h : DataW.Trod enc Try.prog w 0 (fun _ => true) true 9 v d p) :
    ∃ k : List UInt8, v = strV k := by
  obtain ⟨fuel, hf⟩ := h
  obtain ⟨k, e, e2, hl⟩ := key_cells hf
  obtain ⟨s, rfl⟩ : ∃ s, v = .string s := by
    cases v <;> first | exact ⟨_, rfl⟩ | (exfalso; simp [Value.cells, strV] at e; done) | (exfalso; simp [Value.okWide, Cell.okWide, Cell.ok, Try.underlying9] at hv; done)
  have e3 : Value.string s = strV k := by
    have e4 : [Value.string s] = [strV k] := e
    simpa using e4
  exact ⟨k, e3⟩
theorem en_weights (d0 d1 d2 : DataW H) : (DataW.agg [d0, d1, d2]).weights Try.prog 28 = DataW.weightsEach Try.prog [9, 9, 4] [d0, d1, d2] := by
  simp only [DataW.weights, Try.underlying28]
  rfl
theorem weights_each {ts : List TypeId} {ds : List (DataW H)} {n : Nat} (hsz : (DataW.weightsEach Try.prog ts ds).all (· ≤ n) = true) {j : Nat} {t : TypeId} {d : DataW H} (ht : ts[j]? = some t) (hd : ds[j]? = some d) : (d.weights Try.prog t).all (· ≤ n) = true := by
  induction ts generalizing ds j with
  | nil => simp at ht
  | cons t0 ts ih =>
    cases ds with
    | nil => simp at hd
    | cons d0 ds =>
      rw [DataW.weightsEach, List.all_append, Bool.and_eq_true] at hsz
      cases j with
      | zero =>
        simp at ht hd
        subst ht hd
        exact hsz.1
      | succ j => exact ih hsz.2 (by simpa using ht) (by simpa using hd)
theorem weights_in {e : TypeId} {l : List (DataW H)} {d : DataW H} (hd : d ∈ l) {n : Nat} (h : (DataW.weightsAll Try.prog e l).all (· ≤ n) = true) : (d.weights Try.prog e).all (· ≤ n) = true := by
  induction l with
  | nil => cases hd
  | cons x r ih =>
    rw [DataW.weightsAll, List.all_append, Bool.and_eq_true] at h
    rcases List.mem_cons.1 hd with rfl | hd
    · exact h.1
    · exact ih hd h.2
/-- An entry that came in. -/
theorem open_en {w : World} {fuel : Nat} {cs : List Value} {x : DataW H × List MemPlace} (h : DataW.trod enc Try.prog w 0 (fun _ => true) true fuel 28 cs = some x) :
    ∃ e : En, cs = enC e ∧ ((x.1.weights Try.prog 28).all (· ≤ reachBytes) = true → e.k.length ≤ 140737488351232 ∧ e.v.length ≤ 140737488351232) := by
  obtain ⟨y0, y1, y2, m, rfl, hl, g0, g1, g2⟩ := trod_struct3 Try.underlying28 h
  rw [cells_en] at hl
  simp only [cells_str, cells_b] at g0 g1 g2
  obtain ⟨v0, v1, v2, rfl⟩ : ∃ v0 v1 v2, cs = [v0, v1, v2] := by
    match cs, hl with
    | [v0, v1, v2], _ => exact ⟨v0, v1, v2, rfl⟩
  simp at g0 g1 g2
  obtain ⟨k, e0, d0, _⟩ := key_cells g0
  obtain ⟨u, e1, d1, _⟩ := key_cells g1
  obtain ⟨g, e2, _⟩ := DataW.trod_bool Try.underlying4 g2
  refine ⟨⟨k, u, g⟩, ?_, fun hw => ?_⟩
  · simp at e0 e1 e2
    simp [enC, e0, e1, e2]
  · rw [en_weights] at hw
    exact ⟨key_weight d0 (weights_each hw (j := 0) rfl rfl), key_weight d1 (weights_each hw (j := 1) rfl rfl)⟩
/-- Entries that came in. -/
theorem open_ens {w : World} {d : DataW H} {p : List MemPlace} {a0 : Option Addr} {n c : Nat} (h : DataW.Trod enc Try.prog w 0 (fun _ => true) true 25 (.slice a0 n c) d p) :
    ∃ L : List En, n = L.length ∧ EnS w (.slice a0 n c) L ∧ ((d.weights Try.prog 25).all (· ≤ reachBytes) = true → Short L) := by
  obtain ⟨fuel, hf⟩ := h
  have hf' : DataW.trod enc Try.prog w 0 (fun _ => true) true fuel 25 [.slice a0 n c] = some (d, p) := hf
  rcases open_slice Try.underlying25 hf' with ⟨h0, _⟩ | ⟨a, len, cap, m, k, D, Pl, h0, _, hl, hm, hmm, hd, hx⟩
  · simp at h0
    obtain ⟨rfl, rfl, rfl⟩ := h0
    exact ⟨[], rfl, EnS.nil w, fun _ e he => by cases he⟩
  · simp at h0
    obtain ⟨rfl, rfl, rfl⟩ := h0
    simp only [if_true] at hmm
    subst hmm
    rw [cells_en] at hx
    cases hd
    unfold maxLen at hm
    have one : ∀ i, i < n → ∃ e : En, (∀ j u, (enC e)[j]? = some u → w.cell? ((a.add (i * 3)).add j) = some u) ∧ (((D i).weights Try.prog 28).all (· ≤ reachBytes) = true → e.k.length ≤ 140737488351232 ∧ e.v.length ≤ 140737488351232) := by
      intro i hi
      obtain ⟨cs, hc, ht⟩ := hx i (by omega)
      obtain ⟨_, hlen, hcell⟩ := World.cells?_some hc
      obtain ⟨e, rfl, hw⟩ := open_en ht
      refine ⟨e, fun j u hu => ?_, hw⟩
      have := hcell j (by have := (List.getElem?_eq_some_iff.1 hu).1; omega)
      rw [this]
      exact hu
    obtain ⟨T, hT⟩ := choose_lt (α := En) (n := n) one
    have hln : ((List.range n).map T).length = n := by simp
    refine ⟨(List.range n).map T, hln.symm, ⟨some a, _, by rw [hln], by rw [hln]; exact hl, by omega, (fun h => by cases h), fun h0 => ?_⟩, fun hw e he => ?_⟩
    · rw [hln] at h0
      have ha : a = ⟨a.block, a.off, none⟩ := by
        have h1 := (hT 0 h0).1 0 _ rfl
        have e0 : (a.add (0 * 3)).add 0 = a := rfl
        rw [e0] at h1
        obtain ⟨b, o, sp⟩ := a
        cases sp with
        | none => rfl
        | some q =>
          have : w.cell? ⟨b, o, some q⟩ = none := by unfold World.cell?; split <;> simp
          rw [this] at h1; cases h1
      refine ⟨a.block, a.off, by rw [← ha], fun i e he j u hu => ?_⟩
      have hi : i < n := by
        have := (List.getElem?_eq_some_iff.1 he).1
        rwa [hln] at this
      have he2 : e = T i := by simpa [hi] using he.symm
      have h2 := (hT i hi).1 j u (he2 ▸ hu)
      rw [ha, add_at, add_at] at h2
      exact h2
    · obtain ⟨i, hi, rfl⟩ := List.mem_map.1 he
      have hi := List.mem_range.1 hi
      simp only [DataW.weights, Try.underlying25, List.all_cons, List.all_append, Bool.and_eq_true] at hw
      exact (hT i hi).2 (weights_in (List.mem_map_of_mem (f := D) (List.mem_range.2 hi)) hw.2.1)
end
end Go.Proofs.Ytdfhjmodacjilaa.Me
