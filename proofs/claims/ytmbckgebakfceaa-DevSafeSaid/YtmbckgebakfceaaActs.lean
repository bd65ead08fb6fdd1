/-
  Opened: slices of bytes, of bools, of acts (the laws' own struct), as they come in.
-/
import Derived.Test.YtmbckgebakfceaaKeptRow
import Derived.Deep.Fields
import Derived.Deep.Slices
namespace Go.Proofs.Ytmbckgebakfceaa
open Go.ChangeShapes Go.WideShapes Go.ChangeAt Go.RowKit Go.Deep

section
variable {H : Type} {enc : TypeId × Value → H}

theorem open_bytes {w : World} {d : DataW H} {p : List MemPlace} {a0 : Option Addr} {n c : Nat} (h : DataW.Trod enc Try.prog w 0 (fun _ => true) true 22 (.slice a0 n c) d p) :
    ∃ l : List UInt8, n = l.length ∧ ReadsAs w a0 l ∧ (0 < l.length → ∀ ad, a0 = some ad → ad.block < w.heap.size) ∧ n ≤ 9223372036854775807 := by
  obtain ⟨fuel, hf⟩ := h
  have hf' : DataW.trod enc Try.prog w 0 (fun _ => true) true fuel 22 [.slice a0 n c] = some (d, p) := hf
  rcases open_slice1 Try.underlying22 cells5 hf' with ⟨h0, _⟩ | ⟨a, len, cap, m, k, V, D, Pl, h0, _, hl, hm, hmm, _, hx⟩
  · simp at h0
    obtain ⟨rfl, rfl, rfl⟩ := h0
    exact ⟨[], rfl, fun h => by simp at h, fun h => by simp at h, by decide⟩
  · simp at h0
    obtain ⟨rfl, rfl, rfl⟩ := h0
    simp only [if_true] at hmm
    subst hmm
    obtain ⟨B, hB⟩ := choose_lt (α := UInt8) (p := fun i b => V i = byteV b) (fun i hi => by
      obtain ⟨x, h1, _, h3⟩ := DataW.trod_int Try.underlying5 (hx i hi).2
      obtain ⟨b, hb⟩ := byte_of_wf h3
      exact ⟨b, by rw [← hb]; simpa using h1⟩)
    have hln : ((List.range n).map B).length = n := by simp
    unfold maxLen at hm
    refine ⟨(List.range n).map B, hln.symm, fun h0 => ⟨a, rfl, fun j v hv => ?_⟩, fun h0 ad e => ?_, by omega⟩
    · have hj : j < n := by
        have := (List.getElem?_eq_some_iff.1 hv).1
        rwa [length_cellsB, hln] at this
      rw [(hx j (by omega)).1, hB j (by omega)]
      simp [cellsB, hj] at hv
      rw [← hv]
    · cases e
      rw [hln] at h0
      have h1 := World.block_lt_of_cell? w _ (hx 0 (by omega)).1
      have hb : (a.add 0).block = a.block := rfl
      rwa [hb] at h1

/-- What the laws read of an act. -/
structure ActV where
  kind : Int
  at_ : Int
  kp : Option Addr
  cap : Nat
  ks : List Bool

instance : Inhabited ActV := ⟨⟨0, 0, none, 0, []⟩⟩

/-- A slice of acts that reads as xs. -/
def ReadsActs (w : World) (lp : Option Addr) (xs : List ActV) : Prop :=
  xs.length ≤ 9223372036854775807 ∧ (0 < xs.length → ∃ lb lo, lp = some ⟨lb, lo, none⟩ ∧ lb < w.heap.size ∧ ∀ k v, xs[k]? = some v →
    w.cell? ⟨lb, lo + k * 4, none⟩ = some (.int .i64 v.kind) ∧ w.cell? ⟨lb, lo + k * 4 + 1, none⟩ = some (.int .i64 v.at_) ∧
    w.cell? ⟨lb, lo + k * 4 + 3, none⟩ = some (.slice v.kp v.ks.length v.cap) ∧ ReadsK w v.kp v.ks)

theorem cellsAct : Try.prog.cellsOf 37 = 4 := by kernel_rfl

/-- One field of a struct whose fields take a cell each. -/
theorem one_field {P : Program} {w : World} {a : Addr} {t : TypeId} {fs : Array Field} {sp : Nat → Bool} {held : Bool} {fuel : Nat} {cs : List Value} {x : DataW H × List MemPlace} (ht : P.underlying t = some (.struct fs)) (hone : oneCellFields P fs = true) (hC : P.cellsOf t = fs.size)
    (hc : w.cells? 0 a (P.cellsOf t) = some cs) (h : DataW.trod enc P w 0 sp held fuel t cs = some x) (j : Nat) (f : Field) (hj : fs[j]? = some f) : ∃ v y n, w.cell? (a.add j) = some v ∧ DataW.trod enc P w 0 sp held n f.type [v] = some y := by
  obtain ⟨ys, n, _, _, _, hyl, hf⟩ := DataW.trod_struct ht h
  obtain ⟨_, hlen, hcell⟩ := World.cells?_some hc
  obtain ⟨ho, hk⟩ := hone_of hone j f hj
  have hjl : j < fs.size := (Array.getElem?_eq_some_iff.1 hj).1
  have h1 := hf j f hj
  rw [ho, hk, List.drop_eq_getElem_cons (by omega), List.getElem?_eq_getElem (by omega)] at h1
  refine ⟨cs[j]'(by omega), ys[j]'(by omega), n, ?_, h1⟩
  rw [hcell j (by omega), List.getElem?_eq_getElem (by omega)]

theorem add_add' (a : Addr) (m j : Nat) : (a.add m).add j = a.add (m + j) := Go.Deep.add_add a m j

theorem act_fields {w : World} {b o : Nat} {fuel : Nat} {cs : List Value} {x : DataW H × List MemPlace} (hc : w.cells? 0 (⟨b, o, none⟩ : Addr) 4 = some cs) (h : DataW.trod enc Try.prog w 0 (fun _ => true) true fuel 37 cs = some x) :
    ∃ v : ActV, w.cell? ⟨b, o, none⟩ = some (.int .i64 v.kind) ∧ w.cell? ⟨b, o + 1, none⟩ = some (.int .i64 v.at_) ∧ w.cell? ⟨b, o + 3, none⟩ = some (.slice v.kp v.ks.length v.cap) ∧ ReadsK w v.kp v.ks := by
  have hone : oneCellFields Try.prog _ = true := (by kernel_rfl : oneCellFields Try.prog (match Try.prog.underlying 37 with | some (.struct fs) => fs | _ => #[]) = true)
  rw [Try.underlying37] at hone
  rw [← cellsAct] at hc
  obtain ⟨v0, y0, n0, c0, t0⟩ := one_field Try.underlying37 hone cellsAct hc h 0 _ rfl
  obtain ⟨v1, y1, n1, c1, t1⟩ := one_field Try.underlying37 hone cellsAct hc h 1 _ rfl
  obtain ⟨v3, y3, n3, c3, t3⟩ := one_field Try.underlying37 hone cellsAct hc h 3 _ rfl
  obtain ⟨x0, e0, _, _⟩ := DataW.trod_int Try.underlying3 t0
  obtain ⟨x1, e1, _, _⟩ := DataW.trod_int Try.underlying3 t1
  simp only [List.cons.injEq, and_true] at e0 e1
  subst e0 e1
  rw [add_at] at c0 c1 c3
  have hs : ∃ kp n c, v3 = .slice kp n c := by
    rcases open_slice Try.underlying35 t3 with ⟨h0, _⟩ | ⟨a, len, cap, m, n, D, Pl, h0, _⟩
    · simp only [List.cons.injEq, and_true] at h0; exact ⟨_, _, _, h0⟩
    · simp only [List.cons.injEq, and_true] at h0; exact ⟨_, _, _, h0⟩
  obtain ⟨kp, n, c, rfl⟩ := hs
  obtain ⟨ks, rfl, hk⟩ := open_marks (p := y3.2) (d := y3.1) ⟨n3, t3⟩
  exact ⟨⟨x0, x1, kp, c, ks⟩, c0, c1, c3, hk⟩

theorem open_acts {w : World} {d : DataW H} {p : List MemPlace} {a0 : Option Addr} {n c : Nat} (h : DataW.Trod enc Try.prog w 0 (fun _ => true) true 23 (.slice a0 n c) d p) :
    ∃ xs : List ActV, n = xs.length ∧ ReadsActs w a0 xs := by
  obtain ⟨fuel, hf⟩ := h
  have hf' : DataW.trod enc Try.prog w 0 (fun _ => true) true fuel 23 [.slice a0 n c] = some (d, p) := hf
  rcases open_slice Try.underlying23 hf' with ⟨h0, _⟩ | ⟨a, len, cap, m, k, D, Pl, h0, _, hl, hm, hmm, _, hx⟩
  · simp at h0
    obtain ⟨rfl, rfl, rfl⟩ := h0
    exact ⟨[], rfl, by decide, fun h => by simp at h⟩
  · simp at h0
    obtain ⟨rfl, rfl, rfl⟩ := h0
    simp only [if_true] at hmm
    subst hmm
    rw [cellsAct] at hx
    by_cases hn0 : n = 0
    · subst hn0; exact ⟨[], rfl, by decide, fun h => by simp at h⟩
    · have ha : a = ⟨a.block, a.off, none⟩ ∧ a.block < w.heap.size := by
        obtain ⟨cs, hc, _⟩ := hx 0 (by omega)
        obtain ⟨_, hlen, hcell⟩ := World.cells?_some hc
        have h0 := hcell 0 (by omega)
        rw [List.getElem?_eq_getElem (by omega)] at h0
        have e0 : (a.add (0 * 4)).add 0 = a := rfl
        rw [e0] at h0
        refine ⟨?_, World.block_lt_of_cell? w a h0⟩
        obtain ⟨b, o, sp⟩ := a
        cases sp with
        | none => rfl
        | some q =>
          have : w.cell? ⟨b, o, some q⟩ = none := by unfold World.cell?; split <;> simp
          rw [this] at h0; cases h0
      obtain ⟨V, hV⟩ := choose_lt (α := ActV) (p := fun i v => w.cell? ⟨a.block, a.off + i * 4, none⟩ = some (.int .i64 v.kind) ∧ w.cell? ⟨a.block, a.off + i * 4 + 1, none⟩ = some (.int .i64 v.at_) ∧
          w.cell? ⟨a.block, a.off + i * 4 + 3, none⟩ = some (.slice v.kp v.ks.length v.cap) ∧ ReadsK w v.kp v.ks) (fun i hi => by
        obtain ⟨cs, hc, ht⟩ := hx i hi
        rw [ha.1, add_at] at hc
        exact act_fields hc ht)
      have hln : ((List.range n).map V).length = n := by simp
      unfold maxLen at hm
      refine ⟨(List.range n).map V, hln.symm, by rw [hln]; omega, fun _ => ⟨a.block, a.off, by rw [← ha.1], ha.2, fun i v hv => ?_⟩⟩
      have hi : i < n := by
        have := (List.getElem?_eq_some_iff.1 hv).1
        rwa [hln] at this
      have hvi : v = V i := by simpa [hi] using hv.symm
      rw [hvi]
      exact hV i (by omega)
end

end Go.Proofs.Ytmbckgebakfceaa
