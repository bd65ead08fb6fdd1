/-
  table's laws: their arguments opened, by bulk: entries, a size.
-/
import Derived.Test.YteogdihacohkfaaGreatDoorRows
import Derived.Test.YteogdihacohkfaaGreatDoorTbV
import Derived.Deep.Strs
import Derived.Deep.Slices
import Derived.Lib.SmallJoins
import Derived.SizedLaws
import Derived.OpenShut
namespace Go.Proofs.YteogdihacohkfaaGreatDoor.Tb
open Go.ChangeShapes Go.WideShapes Go.ChangeAt Go.RowKit Go.Deep
open Me (En EnS EnO enC enV sizeL strV key_cells cells_str cells_b cells_en)
set_option maxRecDepth 100000
set_option linter.unusedVariables false

theorem size_le {L : List En} {b : Nat} (h : ∀ e ∈ L, e.k.length ≤ b ∧ e.v.length ≤ b) : sizeL L ≤ L.length * (2 * b) := by
  induction L with
  | nil => exact Nat.zero_le _
  | cons e r ih =>
    have h1 := h e (by simp)
    have h2 := ih (fun x hx => h x (by simp [hx]))
    rw [sizeL, List.length_cons, Nat.add_mul]
    omega
theorem bulk_one {H : Type} (d : DataW H) : 1 ≤ Rows.uptoBulk d := by
  cases d with
  | lit l => cases l <;> simp [Rows.uptoBulk]
  | nil => simp [Rows.uptoBulk]
  | ptr d => simp [Rows.uptoBulk]
  | slice elems spare => simp [Rows.uptoBulk]
  | agg parts => simp [Rows.uptoBulk]
  | iface t d => simp [Rows.uptoBulk]
  | map entries => simp [Rows.uptoBulk]
  | held h => simp [Rows.uptoBulk]
theorem bulk_part {H : Type} {d : DataW H} {l : List (DataW H)} (h : d ∈ l) : Rows.uptoBulk d ≤ Rows.uptoBulkAll l := by
  induction l with
  | nil => cases h
  | cons x r ih =>
    simp only [Rows.uptoBulkAll]
    cases List.mem_cons.1 h with
    | inl e => subst e; omega
    | inr e => have := ih e; omega
theorem bulk_length {H : Type} (l : List (DataW H)) : l.length ≤ Rows.uptoBulkAll l := by
  induction l with
  | nil => simp [Rows.uptoBulkAll]
  | cons x r ih => have := bulk_one x; simp only [Rows.uptoBulkAll, List.length_cons]; omega

section
variable {H : Type} {enc : TypeId × Value → H}
theorem cells_size : Tryz.prog.cellsOf 24 = 2 := by kernel_rfl
theorem cells_one : Tryz.prog.cellsOf 3 = 1 := by kernel_rfl
theorem i64_of {x : Int} (h : (Lit.int .i64 x).wf = true) : -9223372036854775808 ≤ x ∧ x ≤ 9223372036854775807 := by
  have e1 : IntKind.i64.min = -9223372036854775808 := by decide
  have e2 : IntKind.i64.max = 9223372036854775807 := by decide
  simp only [Lit.wf, Bool.and_eq_true, decide_eq_true_eq] at h
  rw [e1, e2] at h
  exact h
theorem open_size {w : World} {base b0 : Nat} {r : Reach} {v : Value} {d : DataW H} {p : List MemPlace} (hv : Value.okWide Tryz.prog w r b0 24 v) (h : DataW.Trod enc Tryz.prog w base (fun _ => true) true 24 v d p) :
    ∃ x0 x1 : Int, v = .agg #[.int .i64 x0, .int .i64 x1] ∧ (Lit.int .i64 x0).wf = true ∧ (Lit.int .i64 x1).wf = true := by
  obtain ⟨cs, rfl, hsz⟩ : ∃ cs, v = .agg cs ∧ cs.size = Tryz.prog.cellsOf 24 := by
    have := hv
    simp only [Value.okWide, Tryz.underlying24] at this
    obtain ⟨cs, e, hs, _⟩ := this
    exact ⟨cs, e, hs⟩
  rw [cells_size] at hsz
  obtain ⟨l⟩ := cs
  obtain ⟨c0, c1, rfl⟩ : ∃ a b, l = [a, b] := by
    match l, hsz with
    | [a, b], _ => exact ⟨a, b, rfl⟩
  obtain ⟨fuel, hf⟩ := h
  obtain ⟨y0, y1, m, hx, _, hy0, hy1⟩ := trod_struct2 Tryz.underlying24 hf
  obtain ⟨x0, e0, rfl, w0⟩ := DataW.trod_int Tryz.underlying3 hy0
  obtain ⟨x1, e1, rfl, w1⟩ := DataW.trod_int Tryz.underlying3 hy1
  have hc1 : Tryz.prog.cellsOf 3 = 1 := cells_one
  simp [hc1, Value.cells] at e0 e1
  exact ⟨x0, x1, by rw [e0, e1], w0, w1⟩

/-- An entry that came in. -/
theorem open_en_b {w : World} {fuel : Nat} {cs : List Value} {x : DataW H × List MemPlace} (h : DataW.trod enc Tryz.prog w 0 (fun _ => true) true fuel 38 cs = some x) :
    ∃ e : En, cs = enC e ∧ (e.k.length ≤ Rows.uptoBulk x.1 ∧ e.v.length ≤ Rows.uptoBulk x.1) := by
  obtain ⟨y0, y1, y2, m, rfl, hl, g0, g1, g2⟩ := trod_struct3 Tryz.underlying38 h
  rw [cells_en] at hl
  simp only [cells_str, cells_b] at g0 g1 g2
  obtain ⟨v0, v1, v2, rfl⟩ : ∃ v0 v1 v2, cs = [v0, v1, v2] := by
    match cs, hl with
    | [v0, v1, v2], _ => exact ⟨v0, v1, v2, rfl⟩
  simp at g0 g1 g2
  obtain ⟨k, e0, d0, _⟩ := key_cells g0
  obtain ⟨u, e1, d1, _⟩ := key_cells g1
  obtain ⟨g, e2, _⟩ := DataW.trod_bool Tryz.underlying4 g2
  refine ⟨⟨k, u, g⟩, ?_, ?_⟩
  · simp at e0 e1 e2
    simp [enC, e0, e1, e2]
  · simp only [Rows.uptoBulk, Rows.uptoBulkAll, d0, d1]
    constructor <;> omega
/-- Entries that came in. -/
theorem open_ens_b {w : World} {d : DataW H} {p : List MemPlace} {a0 : Option Addr} {n c : Nat} (h : DataW.Trod enc Tryz.prog w 0 (fun _ => true) true 22 (.slice a0 n c) d p) :
    ∃ L : List En, n = L.length ∧ EnS w (.slice a0 n c) L ∧ L.length ≤ Rows.uptoBulk d ∧ ∀ e ∈ L, e.k.length ≤ Rows.uptoBulk d ∧ e.v.length ≤ Rows.uptoBulk d := by
  obtain ⟨fuel, hf⟩ := h
  have hf' : DataW.trod enc Tryz.prog w 0 (fun _ => true) true fuel 22 [.slice a0 n c] = some (d, p) := hf
  rcases open_slice Tryz.underlying22 hf' with ⟨h0, _⟩ | ⟨a, len, cap, m, k, D, Pl, h0, _, hl, hm, hmm, hd, hx⟩
  · simp at h0
    obtain ⟨rfl, rfl, rfl⟩ := h0
    exact ⟨[], rfl, EnS.nil w, Nat.zero_le _, fun e he => by cases he⟩
  · simp at h0
    obtain ⟨rfl, rfl, rfl⟩ := h0
    simp only [if_true] at hmm
    subst hmm
    rw [cells_en] at hx
    cases hd
    unfold maxLen at hm
    have one : ∀ i, i < n → ∃ e : En, (∀ j u, (enC e)[j]? = some u → w.cell? ((a.add (i * 3)).add j) = some u) ∧ (e.k.length ≤ Rows.uptoBulk (D i) ∧ e.v.length ≤ Rows.uptoBulk (D i)) := by
      intro i hi
      obtain ⟨cs, hc, ht⟩ := hx i (by omega)
      obtain ⟨_, hlen, hcell⟩ := World.cells?_some hc
      obtain ⟨e, rfl, hw⟩ := open_en_b ht
      refine ⟨e, fun j u hu => ?_, hw⟩
      have := hcell j (by have := (List.getElem?_eq_some_iff.1 hu).1; omega)
      rw [this]
      exact hu
    obtain ⟨T, hT⟩ := choose_lt (α := En) (n := n) one
    have hln : ((List.range n).map T).length = n := by simp
    refine ⟨(List.range n).map T, hln.symm, ⟨some a, _, by rw [hln], by rw [hln]; exact hl, by omega, (fun h => by cases h), fun h0 => ?_⟩, ?_, fun e he => ?_⟩
    · rw [hln] at h0
      have ha : a = ⟨a.block, a.off, none⟩ := by
        have h1 := (hT 0 h0).1 0 _ rfl
        have e0 : (a.add (0 * 3)).add 0 = a := rfl
        rw [e0] at h1
        obtain ⟨b, o, sp⟩ := a
        cases sp with
        | none => rfl
        | some q =>
          have : w.cell? ⟨b, o, some q⟩ = none := by unfold World.cell?; split <;> simp
          rw [this] at h1; cases h1
      refine ⟨a.block, a.off, by rw [← ha], fun i e he j u hu => ?_⟩
      have hi : i < n := by
        have := (List.getElem?_eq_some_iff.1 he).1
        rwa [hln] at this
      have he2 : e = T i := by simpa [hi] using he.symm
      have h2 := (hT i hi).1 j u (he2 ▸ hu)
      rw [ha, add_at, add_at] at h2
      exact h2
    · have h2 := bulk_length ((List.range n).map D)
      simp only [Rows.uptoBulk]
      rw [List.length_map, List.length_range] at h2 ⊢
      omega
    · obtain ⟨i, hi, rfl⟩ := List.mem_map.1 he
      have hi := List.mem_range.1 hi
      have h1 := (hT i hi).2
      have h2 := bulk_part (List.mem_map_of_mem (f := D) (List.mem_range.2 hi))
      simp only [Rows.uptoBulk]
      constructor <;> omega
end
end Go.Proofs.YteogdihacohkfaaGreatDoor.Tb
