/-
  sketch's laws: their arguments opened: blocks, four numbers, slices of four numbers; how long slices are.
-/
import Derived.Test.YtddgkckgbmgghaaSkE
import Derived.Laws.IdiomArrays
import Derived.OpenShut
namespace Go.Proofs.Ytddgkckgbmgghaa
open Go.ChangeShapes Go.WideShapes Go.ChangeAt Go.RowKit Go.Deep
set_option maxRecDepth 100000

theorem nat_of_u32 {x : Int} (h : (Lit.int .u32 x).wf = true) : ∃ n : Nat, x = (n : Int) ∧ (n : Int) ≤ 4294967295 := by
  have e1 : IntKind.u32.min = 0 := by decide
  have e2 : IntKind.u32.max = 4294967295 := by decide
  simp only [Lit.wf, e1, e2, Bool.and_eq_true, decide_eq_true_eq] at h
  exact ⟨x.toNat, by omega, by omega⟩
theorem cells_b64 : Try.prog.cellsOf 23 = 64 := by kernel_rfl
theorem cells_q4 : Try.prog.cellsOf 25 = 4 := by kernel_rfl
theorem cells_u32 : Try.prog.cellsOf 24 = 1 := by kernel_rfl
theorem bytes_q4 : Try.prog.bytesOf 25 = 16 := by kernel_rfl
section
variable {H : Type} {enc : TypeId × Value → H}
theorem open_blk {w : World} {base b0 : Nat} {r : Reach} {v : Value} {d : DataW H} {p : List MemPlace} (hv : Value.okWide Try.prog w r b0 23 v) (h : DataW.Trod enc Try.prog w base (fun _ => true) true 23 v d p) :
    ∃ l : List UInt8, l.length = 64 ∧ v = arrV l := by
  obtain ⟨cs, rfl, hsz⟩ : ∃ cs, v = .agg cs ∧ cs.size = Try.prog.cellsOf 23 := by
    have := hv
    simp only [Value.okWide, Try.underlying23] at this
    obtain ⟨cs, e, hs, _⟩ := this
    exact ⟨cs, e, hs⟩
  rw [cells_b64] at hsz
  obtain ⟨fuel, hf⟩ := h
  obtain ⟨xs, m, _, hx, hl, hxl, hall⟩ := DataW.trod_array Try.underlying23 hf
  obtain ⟨B, hB⟩ := choose_lt (α := UInt8) (n := 64) (p := fun i b => cs[i]? = some (byteV b)) (fun i hi => by
    have hi' := hall i hi
    obtain ⟨b, hb⟩ : ∃ b, xs[i]? = some b := ⟨_, List.getElem?_eq_getElem (by omega)⟩
    rw [hb, cells5, Nat.mul_one] at hi'
    obtain ⟨z, hcz, _, wz⟩ := DataW.trod_int Try.underlying5 hi'
    obtain ⟨c, hc⟩ := byte_of_wf wz
    refine ⟨c, ?_⟩
    have := congrArg (·[0]?) hcz
    rw [← hc]
    simpa [List.getElem?_take, List.getElem?_drop, Value.cells] using this)
  refine ⟨(List.range 64).map B, by simp, ?_⟩
  unfold arrV
  congr 1
  apply Array.ext_getElem?
  intro i
  by_cases hi : i < 64
  · rw [hB i hi]
    simp [cellsB, hi]
  · rw [Array.getElem?_eq_none (by omega), Array.getElem?_eq_none (by simp [cellsB]; omega)]

/-- Four cells that read as four numbers. -/
theorem open_q4 {w : World} {base : Nat} {fuel : Nat} {cs : List Value} {x : DataW H × List MemPlace} (hl : cs.length = 4) (hf : DataW.trod enc Try.prog w base (fun _ => true) true fuel 25 cs = some x) :
    ∃ f : Nat → Nat, cs = Sk.qC f := by
  obtain ⟨xs, m, _, hx, hxl0, hxl, hall⟩ := DataW.trod_array Try.underlying25 hf
  obtain ⟨B, hB⟩ := choose_lt (α := Nat) (n := 4) (p := fun i b => cs[i]? = some (.int .u32 (b : Int))) (fun i hi => by
    have hi' := hall i hi
    obtain ⟨b, hb⟩ : ∃ b, xs[i]? = some b := ⟨_, List.getElem?_eq_getElem (by omega)⟩
    rw [hb, cells_u32, Nat.mul_one] at hi'
    obtain ⟨z, hcz, _, wz⟩ := DataW.trod_int Try.underlying24 hi'
    obtain ⟨c, hc, _⟩ := nat_of_u32 wz
    refine ⟨c, ?_⟩
    have := congrArg (·[0]?) hcz
    rw [← hc]
    simpa [List.getElem?_take, List.getElem?_drop] using this)
  refine ⟨B, ?_⟩
  apply List.ext_getElem?
  intro i
  by_cases hi : i < 4
  · rw [hB i hi, Sk.qC_get B hi]
  · rw [List.getElem?_eq_none (by omega), List.getElem?_eq_none (by rw [Sk.length_qC]; omega)]
theorem open_q {w : World} {base b0 : Nat} {r : Reach} {v : Value} {d : DataW H} {p : List MemPlace} (hv : Value.okWide Try.prog w r b0 25 v) (h : DataW.Trod enc Try.prog w base (fun _ => true) true 25 v d p) :
    ∃ f : Nat → Nat, v = Sk.skV f := by
  obtain ⟨cs, rfl, hsz⟩ : ∃ cs, v = .agg cs ∧ cs.size = Try.prog.cellsOf 25 := by
    have := hv
    simp only [Value.okWide, Try.underlying25] at this
    obtain ⟨cs, e, hs, _⟩ := this
    exact ⟨cs, e, hs⟩
  rw [cells_q4] at hsz
  obtain ⟨fuel, hf⟩ := h
  obtain ⟨l⟩ := cs
  have hf2 : DataW.trod enc Try.prog w base (fun _ => true) true fuel 25 l = some (d, p) := by simpa [Value.cells] using hf
  obtain ⟨f, hf'⟩ := open_q4 (by simpa using hsz) hf2
  exact ⟨f, by rw [hf']; rfl⟩

theorem len_reach {ts : List TypeId} {ds : List (DataW H)} (hsz : (DataW.weightsEach Try.prog ts ds).all (· ≤ reachBytes) = true) {j : Nat} {d : DataW H} {l : List UInt8} (ht : ts[j]? = some 32) (hd : ds[j]? = some d)
    (hl : 0 < l.length → ∃ e s : List (DataW H), d = .slice e s ∧ e.length = l.length) : l.length ≤ 140737488355327 := by
  rcases Nat.eq_zero_or_pos l.length with h0 | h0
  · omega
  · obtain ⟨e, s, rfl, he⟩ := hl h0
    have h1 := sized_slice hsz ht hd Try.underlying32
    have h2 := reachBytes_lt
    rw [bytes5] at h1
    omega

theorem open_qs {w : World} {ts : List TypeId} {ds : List (DataW H)} {j : Nat} {d : DataW H} {p : List MemPlace} {a0 : Option Addr} {n c : Nat} (hsz : (DataW.weightsEach Try.prog ts ds).all (· ≤ reachBytes) = true) (htj : ts[j]? = some 35) (hdj : ds[j]? = some d)
    (h : DataW.Trod enc Try.prog w 0 (fun _ => true) true 35 (.slice a0 n c) d p) :
    ∃ L : Nat → Nat → Nat, Sk.SkS w (.slice a0 n c) n L ∧ n * 16 ≤ 140737488355328 := by
  obtain ⟨fuel, hf⟩ := h
  have hf' : DataW.trod enc Try.prog w 0 (fun _ => true) true fuel 35 [.slice a0 n c] = some (d, p) := hf
  rcases open_slice Try.underlying35 hf' with ⟨h0, _⟩ | ⟨a, len, cap, m, k, D, Pl, h0, _, hl, hm, hmm, hd, hx⟩
  · simp at h0
    obtain ⟨rfl, rfl, rfl⟩ := h0
    exact ⟨fun _ _ => 0, Sk.SkS.nil _ _, by omega⟩
  · simp at h0
    obtain ⟨rfl, rfl, rfl⟩ := h0
    simp only [if_true] at hmm
    subst hmm
    rw [cells_q4] at hx
    cases hd
    have h1 := sized_slice hsz htj hdj Try.underlying35
    have h2 := reachBytes_lt
    rw [bytes_q4] at h1
    simp at h1
    have one : ∀ i, i < n → ∃ f : Nat → Nat, ∀ q, q < 4 → w.cell? ((a.add (i * 4)).add q) = some (.int .u32 (f q : Int)) := by
      intro i hi
      obtain ⟨cs, hc, ht⟩ := hx i (by omega)
      obtain ⟨_, hlen, hcell⟩ := World.cells?_some hc
      obtain ⟨f, rfl⟩ := open_q4 hlen ht
      refine ⟨f, fun q hq => ?_⟩
      have := hcell q (by omega)
      rw [Sk.qC_get f hq] at this
      exact this
    unfold maxLen at hm
    by_cases hn0 : n = 0
    · subst hn0
      exact ⟨fun _ _ => 0, ⟨_, _, rfl, Nat.zero_le _, by omega, fun h => by omega⟩, by omega⟩
    · have ha : a = ⟨a.block, a.off, none⟩ := by
        obtain ⟨f, hf⟩ := one 0 (by omega)
        have h0 := hf 0 (by decide)
        have e0 : (a.add (0 * 4)).add 0 = a := rfl
        rw [e0] at h0
        obtain ⟨b, o, sp⟩ := a
        cases sp with
        | none => rfl
        | some q =>
          have : w.cell? ⟨b, o, some q⟩ = none := by unfold World.cell?; split <;> simp
          rw [this] at h0; cases h0
      obtain ⟨V, hV⟩ := choose_lt (α := Nat → Nat) (p := fun i f => ∀ q, q < 4 → w.cell? ((a.add (i * 4)).add q) = some (.int .u32 (f q : Int))) one
      refine ⟨V, ⟨_, _, rfl, hl, by omega, fun _ => ⟨a.block, a.off, by rw [← ha], fun i hi q hq => ?_⟩⟩, by omega⟩
      have := hV i hi q hq
      rw [ha, add_at, add_at] at this
      exact this
end
end Go.Proofs.Ytddgkckgbmgghaa
