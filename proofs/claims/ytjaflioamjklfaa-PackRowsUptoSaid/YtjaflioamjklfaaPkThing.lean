/-
  Things that come in as an argument; how long their bytes are at most.
-/
import Derived.Test.YtjaflioamjklfaaRows
import Derived.Test.YtjaflioamjklfaaPkL
import Derived.Test.YtjaflioamjklfaaPkOpen
import Derived.Lib.SmallJoins
import Derived.OpenShut
namespace Go.Proofs.Ytjaflioamjklfaa.Pk
open Go.ChangeShapes Go.WideShapes Go.ChangeAt Go.RowKit Go.Deep
set_option maxRecDepth 100000

/-- A thing: its kind, its number, its slice and the bytes in it, its print. -/
structure Th where
  k : Int
  n : Int
  x : Value
  b : List UInt8
  pr : List UInt8

instance : Inhabited Th := ⟨⟨0, 0, .slice none 0 0, [], []⟩⟩

structure Th.Ok (w : World) (t : Th) : Prop where
  n1 : -9223372036854775808 ≤ t.n
  n2 : t.n ≤ 9223372036854775807
  slc : Slc w t.x t.b
  pr : t.pr.length = 32

def Th.cells (t : Th) : List Value := thingC t.k t.n t.x t.pr

theorem cells3 : Try.prog.cellsOf 3 = 1 := by kernel_rfl
theorem cells25 : Try.prog.cellsOf 25 = 1 := by kernel_rfl
theorem cells28 : Try.prog.cellsOf 28 = 32 := by kernel_rfl
theorem cells30 : Try.prog.cellsOf 30 = 35 := by kernel_rfl

theorem bulk_one {H : Type} (d : DataW H) : 1 ≤ Rows.uptoBulk d := by
  cases d with
  | lit l => cases l <;> simp [Rows.uptoBulk]
  | nil => simp [Rows.uptoBulk]
  | ptr d => simp [Rows.uptoBulk]
  | slice elems spare => simp [Rows.uptoBulk]
  | agg parts => simp [Rows.uptoBulk]
  | iface t d => simp [Rows.uptoBulk]
  | map entries => simp [Rows.uptoBulk]
  | held h => simp [Rows.uptoBulk]
theorem bulk_part {H : Type} {d : DataW H} {l : List (DataW H)} (h : d ∈ l) : Rows.uptoBulk d ≤ Rows.uptoBulkAll l := by
  induction l with
  | nil => cases h
  | cons x r ih =>
    simp only [Rows.uptoBulkAll]
    cases List.mem_cons.1 h with
    | inl e => subst e; omega
    | inr e => have := ih e; omega
theorem bulk_length {H : Type} (l : List (DataW H)) : l.length ≤ Rows.uptoBulkAll l := by
  induction l with
  | nil => simp [Rows.uptoBulkAll]
  | cons x r ih => have := bulk_one x; simp only [Rows.uptoBulkAll, List.length_cons]; omega

section
variable {H : Type} {enc : TypeId × Value → H}

theorem i64_of_wf {x : Int} (h : (Lit.int .i64 x).wf = true) : -9223372036854775808 ≤ x ∧ x ≤ 9223372036854775807 := by
  have e1 : IntKind.i64.min = -9223372036854775808 := by decide
  have e2 : IntKind.i64.max = 9223372036854775807 := by decide
  simp only [Lit.wf, e1, e2, Bool.and_eq_true, decide_eq_true_eq] at h
  exact h

theorem open_prt {w : World} {fuel : Nat} {cs : List Value} {x : DataW H × List MemPlace} (hl : cs.length = 32) (h : DataW.trod enc Try.prog w 0 (fun _ => true) true fuel 28 cs = some x) : ∃ pr : List UInt8, cs = cellsB pr ∧ pr.length = 32 := by
  obtain ⟨xs, m, _, _, _, hxl, hx⟩ := DataW.trod_array Try.underlying28 h
  obtain ⟨B, hB⟩ := choose_lt (α := UInt8) (n := 32) (p := fun i b => cs[i]? = some (byteV b)) (fun i hi => by
    have h1 := hx i hi
    rw [cells5, Nat.mul_one, List.getElem?_eq_getElem (by omega)] at h1
    obtain ⟨v, h2, _, h3⟩ := DataW.trod_int Try.underlying5 h1
    obtain ⟨b, hb⟩ := byte_of_wf h3
    refine ⟨b, ?_⟩
    rw [← hb]
    have h4 : ((cs.drop i).take 1)[0]? = some (Value.int .u8 v) := by rw [h2]; rfl
    simpa using h4)
  refine ⟨(List.range 32).map B, ?_, by simp⟩
  apply List.ext_getElem?
  intro i
  by_cases hi : i < 32
  · rw [hB i hi]
    simp [cellsB, hi]
  · rw [List.getElem?_eq_none (by omega), List.getElem?_eq_none (by simp [cellsB]; omega)]

theorem open_thing {w : World} {fuel : Nat} {cs : List Value} {x : DataW H × List MemPlace} (h : DataW.trod enc Try.prog w 0 (fun _ => true) true fuel 30 cs = some x) :
    ∃ t : Th, cs = t.cells ∧ t.Ok w ∧ t.b.length + 1 ≤ Rows.uptoBulk x.1 := by
  obtain ⟨y0, y1, y2, y3, m, rfl, hl, g0, g1, g2, g3⟩ := Go.Joins.trod_struct4 Try.underlying30 h
  rw [cells30] at hl
  simp only [cells3, cells25, cells28] at g0 g1 g2 g3
  obtain ⟨v0, v1, v2, rest, rfl, hr⟩ : ∃ v0 v1 v2 rest, cs = v0 :: v1 :: v2 :: rest ∧ rest.length = 32 := by
    match cs, hl with
    | v0 :: v1 :: v2 :: rest, hl => exact ⟨v0, v1, v2, rest, rfl, by simpa using hl⟩
  simp at g0 g1 g2 g3
  rw [List.take_of_length_le (by omega)] at g3
  obtain ⟨k, e0, _, _⟩ := DataW.trod_int Try.underlying3 g0
  obtain ⟨n, e1, _, hn⟩ := DataW.trod_int Try.underlying3 g1
  obtain ⟨pr, rfl, hpr⟩ := open_prt hr g3
  obtain ⟨a0, l, c, rfl⟩ : ∃ a0 l c, v2 = .slice a0 l c := by
    rcases open_slice1 Try.underlying25 cells5 g2 with ⟨h0, _⟩ | ⟨a, len, cap, _, _, _, _, _, h0, _⟩
    · exact ⟨none, 0, 0, by simpa using h0⟩
    · exact ⟨some a, len, cap, by simpa using h0⟩
  obtain ⟨b, rfl, hsl, hd⟩ := open_slc (d := y2.1) (p := y2.2) ⟨m, g2⟩
  have hnr := i64_of_wf hn
  simp at e0 e1
  subst e0
  subst e1
  refine ⟨⟨k, n, _, b, pr⟩, rfl, ⟨hnr.1, hnr.2, hsl, hpr⟩, ?_⟩
  show b.length + 1 ≤ _
  simp only [Rows.uptoBulk, Rows.uptoBulkAll]
  rcases Nat.eq_zero_or_pos b.length with h0 | h0
  · have := bulk_one y2.1
    omega
  · obtain ⟨e, s, he, hel⟩ := hd h0
    have h1 : b.length + 1 ≤ Rows.uptoBulk y2.1 := by
      rw [he]
      simp only [Rows.uptoBulk]
      have := bulk_length e
      omega
    omega

/-- Where things lie behind one another. -/
def ThsAt (w : World) (a0 : Option Addr) (L : List Th) : Prop := 0 < L.length → ∃ ad, a0 = some ad ∧ ∀ i t, L[i]? = some t → ∀ j v, t.cells[j]? = some v → w.cell? ((ad.add (i * 35)).add j) = some v

theorem open_things {w : World} {d : DataW H} {p : List MemPlace} {a0 : Option Addr} {n c : Nat} (h : DataW.Trod enc Try.prog w 0 (fun _ => true) true 22 (.slice a0 n c) d p) :
    ∃ L : List Th, n = L.length ∧ (∀ t ∈ L, t.Ok w) ∧ ThsAt w a0 L ∧ L.length ≤ 9223372036854775807 ∧ ∀ t ∈ L, t.b.length + 1 ≤ Rows.uptoBulk d := by
  obtain ⟨fuel, hf⟩ := h
  have hf' : DataW.trod enc Try.prog w 0 (fun _ => true) true fuel 22 [.slice a0 n c] = some (d, p) := hf
  rcases open_slice Try.underlying22 hf' with ⟨h0, _⟩ | ⟨a, len, cap, m, q, D, Pl, h0, _, hl, hm, hmm, hd, hx⟩
  · simp at h0
    obtain ⟨rfl, rfl, rfl⟩ := h0
    exact ⟨[], rfl, fun t h => by simp at h, fun h => by simp at h, by simp, fun t h => by simp at h⟩
  · simp at h0
    obtain ⟨rfl, rfl, rfl⟩ := h0
    simp only [if_true] at hmm
    subst hmm
    rw [cells30] at hx
    obtain ⟨T, hT⟩ := choose_lt (α := Th) (n := n) (p := fun i t => t.Ok w ∧ t.b.length + 1 ≤ Rows.uptoBulk (D i) ∧ ∀ j v, t.cells[j]? = some v → w.cell? ((a.add (i * 35)).add j) = some v) (fun i hi => by
      obtain ⟨cs', h1, h2⟩ := hx i (by omega)
      obtain ⟨t, rfl, hok, hb⟩ := open_thing h2
      obtain ⟨_, hlen, hc⟩ := World.cells?_some h1
      exact ⟨t, hok, hb, fun j v hv => by
        have hj := (List.getElem?_eq_some_iff.1 hv).1
        rw [hc j (by omega), hv]⟩)
    have hln : ((List.range n).map T).length = n := by simp
    have hget : ∀ i t, ((List.range n).map T)[i]? = some t → i < n ∧ t = T i := by
      intro i t h
      have hi := (List.getElem?_eq_some_iff.1 h).1
      rw [hln] at hi
      simp [hi] at h
      exact ⟨hi, h.symm⟩
    unfold maxLen at hm
    refine ⟨(List.range n).map T, hln.symm, fun t ht => ?_, fun _ => ⟨a, rfl, fun i t h j v hv => ?_⟩, by rw [hln]; omega, fun t ht => ?_⟩
    · obtain ⟨i, hi, rfl⟩ := List.mem_map.1 ht
      exact (hT i (List.mem_range.1 hi)).1
    · obtain ⟨hi, rfl⟩ := hget i t h
      exact (hT i hi).2.2 j v hv
    · obtain ⟨i, hi, rfl⟩ := List.mem_map.1 ht
      have h1 := (hT i (List.mem_range.1 hi)).2.1
      cases hd
      simp only [Rows.uptoBulk]
      have h2 := bulk_part (List.mem_map_of_mem (f := D) hi)
      omega
end

end Go.Proofs.Ytjaflioamjklfaa.Pk
