/-
  RsAny's arguments opened: sizes, and two rows of truths by value.
-/
import Derived.Test.YtaldpfamgfchoabRsVa
import Derived.Laws.IdiomArrays
namespace Go.Proofs.Ytaldpfamgfchoab
open Go.ChangeShapes Go.WideShapes Go.ChangeAt Go.RowKit Go.Deep
set_option maxRecDepth 100000

theorem cells_size : Try.prog.cellsOf 23 = 2 := by kernel_rfl
theorem cells_one_size : Try.prog.cellsOf 3 = 1 := by kernel_rfl

section
variable {H : Type} {enc : TypeId × Value → H}
theorem open_size {w : World} {base b0 : Nat} {r : Reach} {v : Value} {d : DataW H} {p : List MemPlace} (hv : Value.okWide Try.prog w r b0 23 v) (h : DataW.Trod enc Try.prog w base (fun _ => true) true 23 v d p) :
    ∃ x0 x1 : Int, v = .agg #[.int .i64 x0, .int .i64 x1] ∧ (Lit.int .i64 x0).wf = true ∧ (Lit.int .i64 x1).wf = true := by
  obtain ⟨cs, rfl, hsz⟩ : ∃ cs, v = .agg cs ∧ cs.size = Try.prog.cellsOf 23 := by
    have := hv
    simp only [Value.okWide, Try.underlying23] at this
    obtain ⟨cs, e, hs, _⟩ := this
    exact ⟨cs, e, hs⟩
  rw [cells_size] at hsz
  obtain ⟨l⟩ := cs
  obtain ⟨c0, c1, rfl⟩ : ∃ a b, l = [a, b] := by
    match l, hsz with
    | [a, b], _ => exact ⟨a, b, rfl⟩
  obtain ⟨fuel, hf⟩ := h
  obtain ⟨y0, y1, m, hx, _, hy0, hy1⟩ := trod_struct2 Try.underlying23 hf
  obtain ⟨x0, e0, rfl, w0⟩ := DataW.trod_int Try.underlying3 hy0
  obtain ⟨x1, e1, rfl, w1⟩ := DataW.trod_int Try.underlying3 hy1
  have hc1 : Try.prog.cellsOf 3 = 1 := cells_one_size
  simp [hc1, Value.cells] at e0 e1
  exact ⟨x0, x1, by rw [e0, e1], w0, w1⟩
theorem open_flags0 {w : World} {d : DataW H} {p : List MemPlace} {a0 : Option Addr} {n c : Nat} (h : DataW.Trod enc Try.prog w 0 (fun _ => true) true 25 (.slice a0 n c) d p) :
    ∃ fl : Nat → Bool, Rs.SB (fun _ => False) w (.slice a0 n c) n fl := by
  obtain ⟨fuel, hf⟩ := h
  have hf' : DataW.trod enc Try.prog w 0 (fun _ => true) true fuel 25 [.slice a0 n c] = some (d, p) := hf
  rcases open_slice1 Try.underlying25 (by kernel_rfl) hf' with ⟨h0, _⟩ | ⟨a, len, cap, m, k, V, D, Pl, h0, _, hl, hm, hmm, hd, hx⟩
  · simp at h0
    obtain ⟨rfl, rfl, rfl⟩ := h0
    exact ⟨fun _ => false, ⟨_, _, rfl, Nat.le_refl _, by decide, fun h => by omega⟩⟩
  · simp at h0
    obtain ⟨rfl, rfl, rfl⟩ := h0
    simp only [if_true] at hmm
    subst hmm
    obtain ⟨B, hB⟩ := choose_lt (α := Bool) (p := fun i b => V i = .bool b) (fun i hi => by
      obtain ⟨b, h1, _⟩ := DataW.trod_bool Try.underlying4 (hx i hi).2
      exact ⟨b, by simpa using h1⟩)
    unfold maxLen at hm
    refine ⟨B, ⟨_, _, rfl, hl, by omega, fun h0 => ?_⟩⟩
    have ha : a = ⟨a.block, a.off, none⟩ := by
      have h0 := (hx 0 (by omega)).1
      obtain ⟨b, o, sp⟩ := a
      cases sp with
      | none => rfl
      | some q =>
        have : w.cell? ((⟨b, o, some q⟩ : Addr).add 0) = none := by
          have e0 : (⟨b, o, some q⟩ : Addr).add 0 = ⟨b, o, some q⟩ := rfl
          rw [e0]
          unfold World.cell?; split <;> simp
        rw [this] at h0; cases h0
    refine ⟨a.block, a.off, by rw [← ha], fun i hi => Rs.SCell.of ?_ (fun x => x)⟩
    have := (hx i (by omega)).1
    rw [hB i (by omega), ha, add_at] at this
    exact this
theorem trod_array2 {P : Program} {w : World} {base : Nat} {spare : Nat → Bool} {held : Bool} {t e : TypeId} {fuel : Nat} {c0 c1 : Value} {x : DataW H × List MemPlace} (ht : P.underlying t = some (.array 2 e)) (hce : P.cellsOf e = 1)
    (h : DataW.trod enc P w base spare held fuel t [c0, c1] = some x) :
    ∃ y0 y1 n, x = (.agg [y0.1, y1.1], y0.2 ++ y1.2) ∧ DataW.trod enc P w base spare held n e [c0] = some y0 ∧ DataW.trod enc P w base spare held n e [c1] = some y1 := by
  cases fuel with
  | zero => simp [DataW.trod] at h
  | succ n =>
    unfold DataW.trod at h
    rw [ht] at h
    have r3 : List.range 2 = [0, 1] := rfl
    simp [r3, hce] at h
    obtain ⟨_, h⟩ := h
    cases h0 : DataW.trod enc P w base spare held n e [c0] with
    | none => simp [h0] at h
    | some y0 =>
      cases h1 : DataW.trod enc P w base spare held n e [c1] with
      | none => simp [h0, h1] at h
      | some y1 =>
        simp [h0, h1] at h
        exact ⟨y0, y1, n, h.symm, h0, h1⟩
theorem cells_f2 : Try.prog.cellsOf 26 = 2 := by kernel_rfl
theorem cells_one_f2 : Try.prog.cellsOf 25 = 1 := by kernel_rfl
theorem open_flags1 {w : World} {fuel : Nat} {c0 : Value} {y : DataW H × List MemPlace} (h : DataW.trod enc Try.prog w 0 (fun _ => true) true fuel 25 [c0] = some y) :
    ∃ (a0 : Option Addr) (n c : Nat) (fl : Nat → Bool), c0 = .slice a0 n c ∧ Rs.SB (fun _ => False) w (.slice a0 n c) n fl := by
  obtain ⟨d, p⟩ := y
  have hs : ∃ kp q c, c0 = .slice kp q c := by
    rcases open_slice Try.underlying25 h with ⟨h0, _⟩ | ⟨a, len, cap, m, n, D, Pl, h0, _⟩
    · simp only [List.cons.injEq, and_true] at h0; exact ⟨_, _, _, h0⟩
    · simp only [List.cons.injEq, and_true] at h0; exact ⟨_, _, _, h0⟩
  obtain ⟨kp, q, c, rfl⟩ := hs
  obtain ⟨fl, hfl⟩ := open_flags0 (p := p) (d := d) ⟨fuel, h⟩
  exact ⟨kp, q, c, fl, rfl, hfl⟩
/-- Two rows of truths by value. -/
theorem open_f2 {w : World} {b0 : Nat} {r : Reach} {v : Value} {d : DataW H} {p : List MemPlace} (hv : Value.okWide Try.prog w r b0 26 v) (h : DataW.Trod enc Try.prog w 0 (fun _ => true) true 26 v d p) :
    ∃ (pa : Nat → Option Addr) (pn pd : Nat → Nat) (pf : Nat → Nat → Bool), v = .agg #[.slice (pa 0) (pn 0) (pd 0), .slice (pa 1) (pn 1) (pd 1)] ∧ ∀ j, j < 2 → Rs.SB (fun _ => False) w (.slice (pa j) (pn j) (pd j)) (pn j) (pf j) := by
  obtain ⟨cs, rfl, hsz⟩ : ∃ cs, v = .agg cs ∧ cs.size = Try.prog.cellsOf 26 := by
    have := hv
    simp only [Value.okWide, Try.underlying26] at this
    obtain ⟨cs, e, hs, _⟩ := this
    exact ⟨cs, e, hs⟩
  rw [cells_f2] at hsz
  obtain ⟨l⟩ := cs
  obtain ⟨c0, c1, rfl⟩ : ∃ a b, l = [a, b] := by
    match l, hsz with
    | [a, b], _ => exact ⟨a, b, rfl⟩
  obtain ⟨fuel, hf⟩ := h
  obtain ⟨y0, y1, m, hx, hy0, hy1⟩ := trod_array2 Try.underlying26 cells_one_f2 hf
  obtain ⟨a0, n0, d0, f0, rfl, h0⟩ := open_flags1 hy0
  obtain ⟨a1, n1, d1, f1, rfl, h1⟩ := open_flags1 hy1
  refine ⟨fun j => if j = 0 then a0 else a1, fun j => if j = 0 then n0 else n1, fun j => if j = 0 then d0 else d1, fun j => if j = 0 then f0 else f1, rfl, fun j hj => ?_⟩
  match j, hj with
  | 0, _ => exact h0
  | 1, _ => exact h1
end
end Go.Proofs.Ytaldpfamgfchoab
