/-
  index's laws: their arguments opened: a config, acts.
-/
import Derived.Test.YtljlfdhjolcnaaaGreatGaM
namespace Go.Proofs.YtljlfdhjolcnaaaGreat.Ix
open Go.ChangeShapes Go.WideShapes Go.ChangeAt Go.RowKit Go.Deep Me
set_option maxRecDepth 100000
set_option linter.unusedVariables false

/-- An act: its kind, its number, its key, its value. -/
structure Ac where
  kd : Int
  n : Int
  key : List UInt8
  val : List UInt8
instance : Inhabited Ac := ⟨⟨0, 0, [], []⟩⟩
def acC (t : Ac) : List Value := [.int .i64 t.kd, .int .i64 t.n, strV t.key, strV t.val]
/-- An act's numbers and texts can be. -/
structure AcOk (t : Ac) : Prop where
  k1 : -9223372036854775808 ≤ t.kd
  k2 : t.kd ≤ 9223372036854775807
  n1 : -9223372036854775808 ≤ t.n
  n2 : t.n ≤ 9223372036854775807
  key : t.key.length ≤ 140737488351232
  val : t.val.length ≤ 140737488351232
/-- A slice that reads as acts. -/
def AcS (w : World) (x : Value) (L : List Ac) : Prop :=
  ∃ a0 c, x = .slice a0 L.length c ∧ L.length ≤ c ∧ c ≤ 9223372036854775807 ∧ (0 < L.length → ∃ g o, a0 = some ⟨g, o, none⟩ ∧ ∀ i e, L[i]? = some e → ∀ j u, (acC e)[j]? = some u → w.cell? ⟨g, o + i * 4 + j, none⟩ = some u)
theorem AcS.stay0 {w w' : World} {x : Value} {L : List Ac} (h : AcS w x L) (hs : Stay (fun _ => False) w w') : AcS w' x L := by
  obtain ⟨a0, c, rfl, h1, h2, h4⟩ := h
  refine ⟨a0, c, rfl, h1, h2, fun h0 => ?_⟩
  obtain ⟨g, o, rfl, hc⟩ := h4 h0
  exact ⟨g, o, rfl, fun i e he j u hu => hs.cell (hc i e he j u hu) (fun x => x)⟩
theorem AcS.at {w : World} {a0 : Option Addr} {n c : Nat} {L : List Ac} (h : AcS w (.slice a0 n c) L) {i : Nat} {e : Ac} (he : L[i]? = some e) : ∃ g o, a0 = some ⟨g, o, none⟩ ∧ w.cell? ⟨g, o + i * 4, none⟩ = some (.int .i64 e.kd) ∧ w.cell? ⟨g, o + i * 4 + 1, none⟩ = some (.int .i64 e.n) ∧ w.cell? ⟨g, o + i * 4 + 2, none⟩ = some (strV e.key) ∧ w.cell? ⟨g, o + i * 4 + 3, none⟩ = some (strV e.val) := by
  obtain ⟨_, _, e1, _, _, h4⟩ := h
  cases e1
  obtain ⟨g, o, rfl, hc⟩ := h4 (Nat.lt_of_le_of_lt (Nat.zero_le _) (List.getElem?_eq_some_iff.1 he).1)
  exact ⟨g, o, rfl, hc i e he 0 _ rfl, hc i e he 1 _ rfl, hc i e he 2 _ rfl, hc i e he 3 _ rfl⟩
theorem cells_i4 : Tryz.prog.cellsOf 3 = 1 := by kernel_rfl
theorem cells_ac : Tryz.prog.cellsOf 37 = 4 := by kernel_rfl
section
variable {H : Type} {enc : TypeId × Value → H}
theorem i64_of {x : Int} (h : (Lit.int .i64 x).wf = true) : -9223372036854775808 ≤ x ∧ x ≤ 9223372036854775807 := by
  have e1 : IntKind.i64.min = -9223372036854775808 := by decide
  have e2 : IntKind.i64.max = 9223372036854775807 := by decide
  simp only [Lit.wf, e1, e2, Bool.and_eq_true, decide_eq_true_eq] at h
  exact h
theorem ac_weights (d0 d1 d2 d3 : DataW H) : (DataW.agg [d0, d1, d2, d3]).weights Tryz.prog 37 = DataW.weightsEach Tryz.prog [3, 3, 9, 9] [d0, d1, d2, d3] := by
  simp only [DataW.weights, Tryz.underlying37]
  rfl
/-- An act that came in. -/
theorem open_ac {w : World} {fuel : Nat} {cs : List Value} {x : DataW H × List MemPlace} (h : DataW.trod enc Tryz.prog w 0 (fun _ => true) true fuel 37 cs = some x) :
    ∃ e : Ac, cs = acC e ∧ ((x.1.weights Tryz.prog 37).all (· ≤ reachBytes) = true → AcOk e) := by
  obtain ⟨y0, y1, y2, y3, m, rfl, hl, g0, g1, g2, g3⟩ := Go.Joins.trod_struct4 Tryz.underlying37 h
  rw [cells_ac] at hl
  simp only [cells_str, cells_i4] at g0 g1 g2 g3
  obtain ⟨v0, v1, v2, v3, rfl⟩ : ∃ v0 v1 v2 v3, cs = [v0, v1, v2, v3] := by
    match cs, hl with
    | [v0, v1, v2, v3], _ => exact ⟨v0, v1, v2, v3, rfl⟩
  simp at g0 g1 g2 g3
  obtain ⟨k, e0, _, hk⟩ := DataW.trod_int Tryz.underlying3 g0
  obtain ⟨n, e1, _, hn⟩ := DataW.trod_int Tryz.underlying3 g1
  obtain ⟨p, e2, d2, _⟩ := key_cells g2
  obtain ⟨u, e3, d3, _⟩ := key_cells g3
  have hkr := i64_of hk
  have hnr := i64_of hn
  refine ⟨⟨k, n, p, u⟩, ?_, fun hw => ?_⟩
  · simp at e0 e1 e2 e3
    simp [acC, e0, e1, e2, e3]
  · rw [ac_weights] at hw
    exact ⟨hkr.1, hkr.2, hnr.1, hnr.2, key_weight d2 (weights_each hw (j := 2) rfl rfl), key_weight d3 (weights_each hw (j := 3) rfl rfl)⟩
/-- Acts that came in. -/
theorem open_acts {w : World} {d : DataW H} {p : List MemPlace} {a0 : Option Addr} {n c : Nat} (h : DataW.Trod enc Tryz.prog w 0 (fun _ => true) true 24 (.slice a0 n c) d p) :
    ∃ L : List Ac, n = L.length ∧ AcS w (.slice a0 n c) L ∧ ((d.weights Tryz.prog 24).all (· ≤ reachBytes) = true → ∀ e ∈ L, AcOk e) := by
  obtain ⟨fuel, hf⟩ := h
  have hf' : DataW.trod enc Tryz.prog w 0 (fun _ => true) true fuel 24 [.slice a0 n c] = some (d, p) := hf
  rcases open_slice Tryz.underlying24 hf' with ⟨h0, _⟩ | ⟨a, len, cap, m, k, D, Pl, h0, _, hl, hm, hmm, hd, hx⟩
  · simp at h0
    obtain ⟨rfl, rfl, rfl⟩ := h0
    exact ⟨[], rfl, ⟨none, 0, rfl, Nat.le_refl _, by decide, fun h => absurd h (Nat.lt_irrefl 0)⟩, fun _ e he => by cases he⟩
  · simp at h0
    obtain ⟨rfl, rfl, rfl⟩ := h0
    simp only [if_true] at hmm
    subst hmm
    rw [cells_ac] at hx
    cases hd
    unfold maxLen at hm
    have one : ∀ i, i < n → ∃ e : Ac, (∀ j u, (acC e)[j]? = some u → w.cell? ((a.add (i * 4)).add j) = some u) ∧ (((D i).weights Tryz.prog 37).all (· ≤ reachBytes) = true → AcOk e) := by
      intro i hi
      obtain ⟨cs, hc, ht⟩ := hx i (by omega)
      obtain ⟨_, hlen, hcell⟩ := World.cells?_some hc
      obtain ⟨e, rfl, hw⟩ := open_ac ht
      refine ⟨e, fun j u hu => ?_, hw⟩
      have := hcell j (by have := (List.getElem?_eq_some_iff.1 hu).1; omega)
      rw [this]
      exact hu
    obtain ⟨T, hT⟩ := choose_lt (α := Ac) (n := n) one
    have hln : ((List.range n).map T).length = n := by simp
    refine ⟨(List.range n).map T, hln.symm, ⟨some a, _, by rw [hln], by rw [hln]; exact hl, by omega, fun h0 => ?_⟩, fun hw e he => ?_⟩
    · rw [hln] at h0
      have ha : a = ⟨a.block, a.off, none⟩ := by
        have h1 := (hT 0 h0).1 0 _ rfl
        have e0 : (a.add (0 * 4)).add 0 = a := rfl
        rw [e0] at h1
        obtain ⟨b, o, sp⟩ := a
        cases sp with
        | none => rfl
        | some q =>
          have : w.cell? ⟨b, o, some q⟩ = none := by unfold World.cell?; split <;> simp
          rw [this] at h1; cases h1
      refine ⟨a.block, a.off, by rw [← ha], fun i e he j u hu => ?_⟩
      have hi : i < n := by
        have := (List.getElem?_eq_some_iff.1 he).1
        rwa [hln] at this
      have he2 : e = T i := by simpa [hi] using he.symm
      have h2 := (hT i hi).1 j u (he2 ▸ hu)
      rw [ha, add_at, add_at] at h2
      exact h2
    · obtain ⟨i, hi, rfl⟩ := List.mem_map.1 he
      have hi := List.mem_range.1 hi
      simp only [DataW.weights, Tryz.underlying24, List.all_cons, List.all_append, Bool.and_eq_true] at hw
      exact (hT i hi).2 (weights_in (List.mem_map_of_mem (f := D) (List.mem_range.2 hi)) hw.2.1)
theorem cells_cfg : Tryz.prog.cellsOf 23 = 4 := by kernel_rfl
/-- A config that came in. -/
theorem open_cfg {w : World} {base b0 : Nat} {r : Reach} {v : Value} {d : DataW H} {p : List MemPlace} (hv : Value.okWide Tryz.prog w r b0 23 v) (h : DataW.Trod enc Tryz.prog w base (fun _ => true) true 23 v d p) :
    ∃ x0 x1 x2 x3 : Int, v = .agg #[.int .i64 x0, .int .i64 x1, .int .i64 x2, .int .i64 x3] ∧ (Lit.int .i64 x0).wf = true ∧ (Lit.int .i64 x1).wf = true ∧ (Lit.int .i64 x2).wf = true ∧ (Lit.int .i64 x3).wf = true := by
  obtain ⟨cs, rfl, hsz⟩ : ∃ cs, v = .agg cs ∧ cs.size = Tryz.prog.cellsOf 23 := by
    have := hv
    simp only [Value.okWide, Tryz.underlying23] at this
    obtain ⟨cs, e, hs, _⟩ := this
    exact ⟨cs, e, hs⟩
  rw [cells_cfg] at hsz
  obtain ⟨l⟩ := cs
  obtain ⟨c0, c1, c2, c3, rfl⟩ : ∃ a b c d, l = [a, b, c, d] := by
    match l, hsz with
    | [a, b, c, d], _ => exact ⟨a, b, c, d, rfl⟩
  obtain ⟨fuel, hf⟩ := h
  obtain ⟨y0, y1, y2, y3, m, hx, _, hy0, hy1, hy2, hy3⟩ := Go.Joins.trod_struct4 Tryz.underlying23 hf
  obtain ⟨x0, e0, rfl, w0⟩ := DataW.trod_int Tryz.underlying3 hy0
  obtain ⟨x1, e1, rfl, w1⟩ := DataW.trod_int Tryz.underlying3 hy1
  obtain ⟨x2, e2, rfl, w2⟩ := DataW.trod_int Tryz.underlying3 hy2
  obtain ⟨x3, e3, rfl, w3⟩ := DataW.trod_int Tryz.underlying3 hy3
  simp [cells_i4, Value.cells] at e0 e1 e2 e3
  exact ⟨x0, x1, x2, x3, by rw [e0, e1, e2, e3], w0, w1, w2, w3⟩
end
end Go.Proofs.YtljlfdhjolcnaaaGreat.Ix
