/-
  merge's laws: orders that came in, opened.
-/
import Derived.Test.YtdfhjmodacjilaaMeOpen
import Derived.Test.YtdfhjmodacjilaaMgJ
namespace Go.Proofs.Ytdfhjmodacjilaa.Mg
open Go.ChangeShapes Go.WideShapes Go.ChangeAt Go.RowKit Go.Deep Me
set_option maxRecDepth 100000
set_option linter.unusedVariables false

theorem cells_row : Try.prog.cellsOf 25 = 1 := by kernel_rfl
theorem bytes_en : Try.prog.bytesOf 28 = 40 := by kernel_rfl
section
variable {H : Type} {enc : TypeId × Value → H}
/-- How many entries a slice that came in has at most. -/
theorem ens_len {w : World} {d : DataW H} {p : List MemPlace} {a0 : Option Addr} {n c : Nat} (h : DataW.Trod enc Try.prog w 0 (fun _ => true) true 25 (.slice a0 n c) d p) (hw : (d.weights Try.prog 25).all (· ≤ reachBytes) = true) : n ≤ 140737488355328 := by
  obtain ⟨fuel, hf⟩ := h
  have hf' : DataW.trod enc Try.prog w 0 (fun _ => true) true fuel 25 [.slice a0 n c] = some (d, p) := hf
  rcases open_slice Try.underlying25 hf' with ⟨h0, _⟩ | ⟨a, len, cap, m, k, D, Pl, h0, _, hl, hm, hmm, hd, hx⟩
  · simp at h0
    omega
  · simp at h0
    obtain ⟨rfl, rfl, rfl⟩ := h0
    simp only [if_true] at hmm
    subst hmm
    cases hd
    have h1 := sized_slice (P := Try.prog) (ts := [25]) (ds := [_]) (j := 0) (t := 25) (e := 28) (by simpa [DataW.weightsEach] using hw) rfl rfl Try.underlying25
    have h2 := reachBytes_lt
    rw [bytes_en] at h1
    simp only [List.length_map, List.length_range] at h1
    omega
/-- Orders that came in. -/
theorem open_lss {w : World} {d : DataW H} {p : List MemPlace} {a0 : Option Addr} {n c : Nat} (h : DataW.Trod enc Try.prog w 0 (fun _ => true) true 22 (.slice a0 n c) d p) (hw : (d.weights Try.prog 22).all (· ≤ reachBytes) = true) :
    ∃ Ls : List (List En), n = Ls.length ∧ ESs w (.slice a0 n c) Ls ∧ ∀ L ∈ Ls, L.length ≤ 140737488355328 := by
  obtain ⟨fuel, hf⟩ := h
  have hf' : DataW.trod enc Try.prog w 0 (fun _ => true) true fuel 22 [.slice a0 n c] = some (d, p) := hf
  rcases open_slice Try.underlying22 hf' with ⟨h0, _⟩ | ⟨a, len, cap, m, k, D, Pl, h0, _, hl, hm, hmm, hd, hx⟩
  · simp at h0
    obtain ⟨rfl, rfl, rfl⟩ := h0
    exact ⟨[], rfl, ⟨none, 0, rfl, Nat.le_refl _, by decide, fun h => absurd h (Nat.lt_irrefl 0)⟩, fun L hL => by cases hL⟩
  · simp at h0
    obtain ⟨rfl, rfl, rfl⟩ := h0
    simp only [if_true] at hmm
    subst hmm
    rw [cells_row] at hx
    cases hd
    unfold maxLen at hm
    simp only [DataW.weights, Try.underlying22, List.all_cons, List.all_append, Bool.and_eq_true] at hw
    have one : ∀ i, i < n → ∃ cv : Value, w.cell? (a.add (i * 1)) = some cv ∧ ∃ m, DataW.trod enc Try.prog w 0 (fun _ => true) true m 25 [cv] = some (D i, Pl i) := by
      intro i hi
      obtain ⟨cs, hc, ht⟩ := hx i (by omega)
      obtain ⟨_, hlen, hcell⟩ := World.cells?_some hc
      match cs, hlen with
      | [cv], _ =>
        have h0 := hcell 0 (by omega)
        refine ⟨cv, ?_, _, ht⟩
        have e0 : (a.add (i * 1)).add 0 = a.add (i * 1) := rfl
        rw [e0] at h0
        simpa using h0
    by_cases hn0 : n = 0
    · subst hn0
      exact ⟨[], rfl, ⟨_, _, rfl, Nat.zero_le _, by omega, fun h => absurd h (Nat.lt_irrefl 0)⟩, fun L hL => by cases hL⟩
    · have ha : a = ⟨a.block, a.off, none⟩ := by
        obtain ⟨cv, h0, _⟩ := one 0 (by omega)
        have e0 : a.add (0 * 1) = a := rfl
        rw [e0] at h0
        obtain ⟨b, o, sp⟩ := a
        cases sp with
        | none => rfl
        | some q =>
          have : w.cell? ⟨b, o, some q⟩ = none := by unfold World.cell?; split <;> simp
          rw [this] at h0; cases h0
      obtain ⟨V, hV⟩ := choose_lt (α := List En) (n := n) (p := fun i L => (∃ v, w.cell? ⟨a.block, a.off + i, none⟩ = some v ∧ EnS w v L) ∧ L.length ≤ 140737488355328) (fun i hi => by
        obtain ⟨cv, hc, m, ht⟩ := one i hi
        rw [ha, add_at, Nat.mul_one] at hc
        have hs : ∃ kp q c, cv = .slice kp q c := by
          rcases open_slice Try.underlying25 ht with ⟨h0, _⟩ | ⟨a, len, cap, m, n, D, Pl, h0, _⟩
          · simp only [List.cons.injEq, and_true] at h0; exact ⟨_, _, _, h0⟩
          · simp only [List.cons.injEq, and_true] at h0; exact ⟨_, _, _, h0⟩
        obtain ⟨kp, q, c, rfl⟩ := hs
        have hT : DataW.Trod enc Try.prog w 0 (fun _ => true) true 25 (.slice kp q c) (D i) (Pl i) := ⟨m, ht⟩
        obtain ⟨L, rfl, hL, _⟩ := open_ens hT
        have hin : D i ∈ (List.range n).map D := List.mem_map_of_mem (List.mem_range.2 hi)
        have hwi := weights_in hin hw.2.1
        exact ⟨L, ⟨_, hc, hL⟩, ens_len hT hwi⟩)
      have hln : ((List.range n).map V).length = n := by simp
      refine ⟨(List.range n).map V, hln.symm, ⟨some a, _, by rw [hln], by rw [hln]; exact hl, by omega, fun h0 => ⟨a.block, a.off, by rw [← ha], fun i L hL => ?_⟩⟩, fun L hL => ?_⟩
      · have hi : i < n := by
          have := (List.getElem?_eq_some_iff.1 hL).1
          rwa [hln] at this
        have he2 : L = V i := by simpa [hi] using hL.symm
        rw [he2]
        exact (hV i hi).1
      · obtain ⟨i, hi, rfl⟩ := List.mem_map.1 hL
        exact (hV i (List.mem_range.1 hi)).2
end
end Go.Proofs.Ytdfhjmodacjilaa.Mg
