/-
  rs's laws: their arguments opened: sizes, rows of texts, marks.
-/
import Derived.Test.YtaldpfamgfchoaaDoorRsO
namespace Go.Proofs.YtaldpfamgfchoaaDoor
open Go.ChangeShapes Go.WideShapes Go.ChangeAt Go.RowKit Go.Deep
set_option maxRecDepth 100000

theorem cells_size : Tryd.prog.cellsOf 23 = 2 := by kernel_rfl
theorem cells_one_size : Tryd.prog.cellsOf 3 = 1 := by kernel_rfl

section
variable {H : Type} {enc : TypeId × Value → H}
theorem open_size {w : World} {base b0 : Nat} {r : Reach} {v : Value} {d : DataW H} {p : List MemPlace} (hv : Value.okWide Tryd.prog w r b0 23 v) (h : DataW.Trod enc Tryd.prog w base (fun _ => true) true 23 v d p) :
    ∃ x0 x1 : Int, v = .agg #[.int .i64 x0, .int .i64 x1] ∧ (Lit.int .i64 x0).wf = true ∧ (Lit.int .i64 x1).wf = true := by
  obtain ⟨cs, rfl, hsz⟩ : ∃ cs, v = .agg cs ∧ cs.size = Tryd.prog.cellsOf 23 := by
    have := hv
    simp only [Value.okWide, Tryd.underlying23] at this
    obtain ⟨cs, e, hs, _⟩ := this
    exact ⟨cs, e, hs⟩
  rw [cells_size] at hsz
  obtain ⟨l⟩ := cs
  obtain ⟨c0, c1, rfl⟩ : ∃ a b, l = [a, b] := by
    match l, hsz with
    | [a, b], _ => exact ⟨a, b, rfl⟩
  obtain ⟨fuel, hf⟩ := h
  obtain ⟨y0, y1, m, hx, _, hy0, hy1⟩ := trod_struct2 Tryd.underlying23 hf
  obtain ⟨x0, e0, rfl, w0⟩ := DataW.trod_int Tryd.underlying3 hy0
  obtain ⟨x1, e1, rfl, w1⟩ := DataW.trod_int Tryd.underlying3 hy1
  have hc1 : Tryd.prog.cellsOf 3 = 1 := cells_one_size
  simp [hc1, Value.cells] at e0 e1
  exact ⟨x0, x1, by rw [e0, e1], w0, w1⟩
theorem weights_each {H : Type} {ts : List TypeId} {ds : List (DataW H)} {n : Nat} (hsz : (DataW.weightsEach Tryd.prog ts ds).all (· ≤ n) = true) {j : Nat} {t : TypeId} {d : DataW H} (ht : ts[j]? = some t) (hd : ds[j]? = some d) : (d.weights Tryd.prog t).all (· ≤ n) = true := by
  induction ts generalizing ds j with
  | nil => simp at ht
  | cons t0 ts ih =>
    cases ds with
    | nil => simp at hd
    | cons d0 ds =>
      rw [DataW.weightsEach, List.all_append, Bool.and_eq_true] at hsz
      cases j with
      | zero =>
        simp at ht hd
        subst ht hd
        exact hsz.1
      | succ j => exact ih hsz.2 (by simpa using ht) (by simpa using hd)
theorem weights_in {e : TypeId} {l : List (DataW H)} {d : DataW H} (hd : d ∈ l) {n : Nat} (h : (DataW.weightsAll Tryd.prog e l).all (· ≤ n) = true) : (d.weights Tryd.prog e).all (· ≤ n) = true := by
  induction l with
  | nil => cases hd
  | cons x r ih =>
    rw [DataW.weightsAll, List.all_append, Bool.and_eq_true] at h
    rcases List.mem_cons.1 hd with rfl | hd
    · exact h.1
    · exact ih hd h.2


theorem bytes_u8x : Tryd.prog.bytesOf 5 = 1 := by kernel_rfl
theorem cells_txtx : Tryd.prog.cellsOf 38 = 1 := by kernel_rfl
theorem i64_of {x : Int} (h : (Lit.int .i64 x).wf = true) : -9223372036854775808 ≤ x ∧ x ≤ 9223372036854775807 := by
  have e1 : IntKind.i64.min = -9223372036854775808 := by decide
  have e2 : IntKind.i64.max = 9223372036854775807 := by decide
  simp only [Lit.wf, e1, e2, Bool.and_eq_true, decide_eq_true_eq] at h
  exact h
theorem open_mat {w : World} {d : DataW H} {p : List MemPlace} {a0 : Option Addr} {n c : Nat} (h : DataW.Trod enc Tryd.prog w 0 (fun _ => true) true 24 (.slice a0 n c) d p) (hw : (d.weights Tryd.prog 24).all (· ≤ reachBytes) = true) :
    ∃ (L : Nat → Nat) (M : Nat → Nat → UInt8), Rs.SM (fun _ => False) w (.slice a0 n c) n L M ∧ ∀ i, i < n → L i ≤ 140737488355328 := by
  obtain ⟨fuel, hf⟩ := h
  have hf' : DataW.trod enc Tryd.prog w 0 (fun _ => true) true fuel 24 [.slice a0 n c] = some (d, p) := hf
  rcases open_slice Tryd.underlying24 hf' with ⟨h0, _⟩ | ⟨a, len, cap, m, k, D, Pl, h0, _, hl, hm, hmm, hd, hx⟩
  · simp at h0
    obtain ⟨rfl, rfl, rfl⟩ := h0
    exact ⟨fun _ => 0, fun _ _ => 0, Rs.SM.none _ _ _ _, fun i hi => by omega⟩
  · simp at h0
    obtain ⟨rfl, rfl, rfl⟩ := h0
    simp only [if_true] at hmm
    subst hmm
    rw [cells_txtx] at hx
    cases hd
    simp only [DataW.weights, Tryd.underlying24, List.all_cons, List.all_append, Bool.and_eq_true] at hw
    have one : ∀ i, i < n → ∃ cv : Value, w.cell? (a.add (i * 1)) = some cv ∧ ∃ m, DataW.trod enc Tryd.prog w 0 (fun _ => true) true m 38 [cv] = some (D i, Pl i) := by
      intro i hi
      obtain ⟨cs, hc, ht⟩ := hx i (by omega)
      obtain ⟨_, hlen, hcell⟩ := World.cells?_some hc
      match cs, hlen with
      | [cv], _ =>
        have h0 := hcell 0 (by omega)
        refine ⟨cv, ?_, _, ht⟩
        have e0 : (a.add (i * 1)).add 0 = a.add (i * 1) := rfl
        rw [e0] at h0
        simpa using h0
    by_cases hn0 : n = 0
    · subst hn0
      exact ⟨fun _ => 0, fun _ _ => 0, ⟨_, _, rfl, Nat.zero_le _, by unfold maxLen at hm; omega, fun h => by omega⟩, fun i hi => by omega⟩
    · have ha : a = ⟨a.block, a.off, none⟩ := by
        obtain ⟨cv, h0, _⟩ := one 0 (by omega)
        have e0 : a.add (0 * 1) = a := rfl
        rw [e0] at h0
        obtain ⟨b, o, sp⟩ := a
        cases sp with
        | none => rfl
        | some q =>
          have : w.cell? ⟨b, o, some q⟩ = none := by unfold World.cell?; split <;> simp
          rw [this] at h0; cases h0
      obtain ⟨V, hV⟩ := choose_lt (α := List UInt8) (p := fun i l => (∃ v, w.cell? ⟨a.block, a.off + i, none⟩ = some v ∧ Slc w v l) ∧ l.length ≤ 140737488355328) (fun i hi => by
        obtain ⟨cv, hc, m, ht⟩ := one i hi
        rw [ha, add_at, Nat.mul_one] at hc
        have hs : ∃ kp q c, cv = .slice kp q c := by
          rcases open_slice Tryd.underlying38 ht with ⟨h0, _⟩ | ⟨a, len, cap, m, n, D, Pl, h0, _⟩
          · simp only [List.cons.injEq, and_true] at h0; exact ⟨_, _, _, h0⟩
          · simp only [List.cons.injEq, and_true] at h0; exact ⟨_, _, _, h0⟩
        obtain ⟨kp, q, c, rfl⟩ := hs
        obtain ⟨l, rfl, hsl, hlen⟩ := open_slc (p := Pl i) (d := D i) ⟨m, ht⟩
        have hin : D i ∈ (List.range n).map D := List.mem_map_of_mem (List.mem_range.2 hi)
        have hwi := weights_in hin hw.2.1
        refine ⟨l, ⟨_, hc, hsl⟩, ?_⟩
        rcases Nat.eq_zero_or_pos l.length with h0 | h0
        · omega
        · obtain ⟨e, s, e1, e2⟩ := hlen h0
          have h1 := sized_slice (P := Tryd.prog) (ts := [38]) (ds := [D i]) (j := 0) (t := 38) (e := 5) (by simpa [DataW.weightsEach] using hwi) rfl (by rw [e1]; rfl) Tryd.underlying38
          have h2 := reachBytes_lt
          rw [bytes_u8x] at h1
          omega)
      have hlf : ∀ i, Rs.lf (V i).length (fun b => (V i).getD b 0) = V i := by
        intro i
        unfold Rs.lf
        apply List.ext_getElem?
        intro j
        by_cases hj : j < (V i).length
        · simp [hj]
        · rw [List.getElem?_eq_none (by simp; omega), List.getElem?_eq_none (by omega)]
      unfold maxLen at hm
      refine ⟨fun i => (V i).length, fun i b => (V i).getD b 0, ⟨_, _, rfl, hl, by omega, fun _ => ⟨a.block, a.off, by rw [← ha], fun i hi => ?_⟩⟩, fun i hi => (hV i hi).2⟩
      obtain ⟨⟨v, h1, h2⟩, _⟩ := hV i hi
      exact ⟨v, Rs.SCell.of h1 (fun x => x), by rw [hlf]; exact Rs.Slc.ss0 h2⟩
theorem bytes_bx : Tryd.prog.bytesOf 4 = 1 := by kernel_rfl
theorem open_flags {w : World} {d : DataW H} {p : List MemPlace} {a0 : Option Addr} {n c : Nat} (h : DataW.Trod enc Tryd.prog w 0 (fun _ => true) true 25 (.slice a0 n c) d p) (hw : (d.weights Tryd.prog 25).all (· ≤ reachBytes) = true) :
    ∃ fl : Nat → Bool, Rs.SB (fun _ => False) w (.slice a0 n c) n fl ∧ (a0 = none → c = 0) ∧ n ≤ 140737488355328 := by
  obtain ⟨fuel, hf⟩ := h
  have hf' : DataW.trod enc Tryd.prog w 0 (fun _ => true) true fuel 25 [.slice a0 n c] = some (d, p) := hf
  rcases open_slice1 Tryd.underlying25 (by kernel_rfl) hf' with ⟨h0, _⟩ | ⟨a, len, cap, m, k, V, D, Pl, h0, _, hl, hm, hmm, hd, hx⟩
  · simp at h0
    obtain ⟨rfl, rfl, rfl⟩ := h0
    exact ⟨fun _ => false, ⟨_, _, rfl, Nat.le_refl _, by decide, fun h => by omega⟩, fun _ => rfl, by decide⟩
  · simp at h0
    obtain ⟨rfl, rfl, rfl⟩ := h0
    simp only [if_true] at hmm
    subst hmm
    obtain ⟨B, hB⟩ := choose_lt (α := Bool) (p := fun i b => V i = .bool b) (fun i hi => by
      obtain ⟨b, h1, _⟩ := DataW.trod_bool Tryd.underlying4 (hx i hi).2
      exact ⟨b, by simpa using h1⟩)
    unfold maxLen at hm
    cases hd
    have hlen : n ≤ 140737488355328 := by
      have h1 := sized_slice (P := Tryd.prog) (ts := [25]) (j := 0) (t := 25) (e := 4) (ds := [_]) (by simpa [DataW.weightsEach] using hw) rfl rfl Tryd.underlying25
      have h2 := reachBytes_lt
      rw [bytes_bx] at h1
      simp at h1
      omega
    refine ⟨B, ⟨_, _, rfl, hl, by omega, fun h0 => ?_⟩, (fun h => by cases h), hlen⟩
    have ha : a = ⟨a.block, a.off, none⟩ := by
      have h0 := (hx 0 (by omega)).1
      obtain ⟨b, o, sp⟩ := a
      cases sp with
      | none => rfl
      | some q =>
        have : w.cell? ((⟨b, o, some q⟩ : Addr).add 0) = none := by
          have e0 : (⟨b, o, some q⟩ : Addr).add 0 = ⟨b, o, some q⟩ := rfl
          rw [e0]
          unfold World.cell?; split <;> simp
        rw [this] at h0; cases h0
    refine ⟨a.block, a.off, by rw [← ha], fun i hi => Rs.SCell.of ?_ (fun x => x)⟩
    have := (hx i (by omega)).1
    rw [hB i (by omega), ha, add_at] at this
    exact this
end

end Go.Proofs.YtaldpfamgfchoaaDoor
