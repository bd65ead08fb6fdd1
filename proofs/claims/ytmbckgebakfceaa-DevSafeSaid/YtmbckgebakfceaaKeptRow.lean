/-
  DevKept answers true for every input, and each argument reads afterwards as it read before. No condition.
-/
import Derived.Test.YtmbckgebakfceaaKept
import Derived.Test.YtmbckgebakfceaaLaw
import Derived.Laws.IdiomArrays
import Derived.Deep.Grids
namespace Go.Proofs.Ytmbckgebakfceaa
open Go.ChangeShapes Go.WideShapes Go.ChangeAt Go.RowKit Go.Deep

theorem cells5 : Try.prog.cellsOf 5 = 1 := by kernel_rfl
theorem cells42 : Try.prog.cellsOf 42 = 4 := by kernel_rfl
theorem cells4 : Try.prog.cellsOf 4 = 1 := by kernel_rfl

theorem byte_of_wf {x : Int} (h : (Lit.int .u8 x).wf = true) : ∃ b : UInt8, Value.int .u8 x = byteV b := by
  have e1 : IntKind.u8.min = 0 := by decide
  have e2 : IntKind.u8.max = 255 := by decide
  simp only [Lit.wf, e1, e2, Bool.and_eq_true, decide_eq_true_eq] at h
  refine ⟨UInt8.ofNat x.toNat, ?_⟩
  have e3 : (UInt8.ofNat x.toNat).toNat = x.toNat := by simp; omega
  unfold byteV
  rw [e3]
  congr 1
  omega

theorem list4 {α : Type} (l : List α) (h : (⟨l⟩ : Array α).size = 4) : ∃ a b c d, l = [a, b, c, d] := by
  match l, h with
  | [a, b, c, d], _ => exact ⟨a, b, c, d, rfl⟩

section
variable {H : Type} {enc : TypeId × Value → H}

/-- An array of four bytes, by value. -/
theorem open_four {w : World} {base b0 : Nat} {r : Reach} {v : Value} {d : DataW H} {p : List MemPlace} (hv : Value.okWide Try.prog w r b0 42 v) (h : DataW.Trod enc Try.prog w base (fun _ => true) true 42 v d p) : ∃ f : Nat → UInt8, v = .agg (four f) := by
  obtain ⟨cs, rfl, hsz⟩ : ∃ cs, v = .agg cs ∧ cs.size = Try.prog.cellsOf 42 := by
    have := hv
    simp only [Value.okWide, Try.underlying42] at this
    obtain ⟨cs, e, hs, _⟩ := this
    exact ⟨cs, e, hs⟩
  rw [cells42] at hsz
  obtain ⟨l⟩ := cs
  obtain ⟨c0, c1, c2, c3, rfl⟩ := list4 l hsz
  obtain ⟨fuel, hf⟩ := h
  obtain ⟨y0, y1, y2, y3, m, hx, hy0, hy1, hy2, hy3⟩ := trod_array4 Try.underlying42 cells5 hf
  obtain ⟨x0, e0, rfl, w0⟩ := DataW.trod_int Try.underlying5 hy0
  obtain ⟨x1, e1, rfl, w1⟩ := DataW.trod_int Try.underlying5 hy1
  obtain ⟨x2, e2, rfl, w2⟩ := DataW.trod_int Try.underlying5 hy2
  obtain ⟨x3, e3, rfl, w3⟩ := DataW.trod_int Try.underlying5 hy3
  obtain ⟨b0, h0⟩ := byte_of_wf w0
  obtain ⟨b1, h1⟩ := byte_of_wf w1
  obtain ⟨b2, h2⟩ := byte_of_wf w2
  obtain ⟨b3, h3⟩ := byte_of_wf w3
  simp at e0 e1 e2 e3
  refine ⟨fun i => match i with | 0 => b0 | 1 => b1 | 2 => b2 | _ => b3, ?_⟩
  rw [e0, e1, e2, e3, h0, h1, h2, h3]
  rfl

/-- A slice of bools that came in. -/
theorem open_marks {w : World} {d : DataW H} {p : List MemPlace} {a0 : Option Addr} {n c : Nat} (h : DataW.Trod enc Try.prog w 0 (fun _ => true) true 35 (.slice a0 n c) d p) :
    ∃ ks : List Bool, n = ks.length ∧ ReadsK w a0 ks := by
  obtain ⟨fuel, hf⟩ := h
  have hf' : DataW.trod enc Try.prog w 0 (fun _ => true) true fuel 35 [.slice a0 n c] = some (d, p) := hf
  rcases open_bools Try.underlying35 Try.underlying4 cells4 hf' with ⟨h0, _⟩ | ⟨a, len, cap, B, h0, _, hl, hm, hx, hc⟩
  · simp at h0
    obtain ⟨rfl, rfl, rfl⟩ := h0
    exact ⟨[], rfl, by decide, fun h => by simp at h⟩
  · simp at h0
    obtain ⟨rfl, rfl, rfl⟩ := h0
    unfold maxLen at hm
    have hln : ((List.range n).map B).length = n := by simp
    refine ⟨(List.range n).map B, hln.symm, by rw [hln]; omega, fun h0 => ?_⟩
    rw [hln] at h0
    have hc0 := hc 0 (by omega)
    have ha : a = ⟨a.block, a.off, none⟩ := by
      obtain ⟨b, o, sp⟩ := a
      cases sp with
      | none => rfl
      | some q =>
        have : w.cell? ⟨b, o, some q⟩ = none := by unfold World.cell?; split <;> simp
        rw [show (⟨b, o, some q⟩ : Addr).add 0 = ⟨b, o, some q⟩ from rfl, this] at hc0
        cases hc0
    rw [ha] at hc hc0
    have hc1 : w.cell? (⟨a.block, a.off, none⟩ : Addr) = some (.bool (B 0)) := by rw [add_at] at hc0; exact hc0
    refine ⟨a.block, a.off, by rw [← ha], World.block_lt_of_cell? w (⟨a.block, a.off, none⟩ : Addr) hc1, fun j hj => ?_⟩
    rw [hln] at hj
    have := hc j (by omega)
    rw [add_at] at this
    rw [this]
    simp [hj]
end

set_option maxRecDepth 100000 in
theorem devKept_lifted (os : Os) (started : os.Started) (H : Type) (enc : TypeId × Value → H) :
    ReturnsInHanded {} Try.checked os 4 .any (Rows.devKeptSpec.pre6 enc Try.prog Try.f4 Rows.devKeptRow.domain false) (Rows.devKeptSpec.post enc Try.prog Try.f4 false true false false) := by
  refine returnsInHanded_of_change (C := Try.checked) Try.own started (by kernel_rfl) Try.func4
    (ChangeSpec.witness6 (enc := enc) (C := Try.checked) false ⟨#[], #[.agg #[.int .u8 0, .int .u8 0, .int .u8 0, .int .u8 0], .agg #[.int .u8 0, .int .u8 0, .int .u8 0, .int .u8 0], .slice none 0 0], []⟩ 8 (by kernel_rfl) (by kernel_rfl) (by kernel_rfl) (by kernel_rfl)) ?_
  intro W base args ds gs before hval0 hW _ _
  have hval : ∀ (j : Nat) t v, Try.f4.params[j]? = some t → args[j]? = some v → Value.okWide Try.prog W .any base t v := hval0
  have hW' := hW
  obtain ⟨p, q, hA0, hV, rfl, hfz, hnd⟩ := hW
  have hA : DataW.TrodAll enc Try.prog W 0 (fun _ => true) true Try.f4.params.toList args.toList ds p := hA0
  have hAk := hA
  rw [Try.params4] at hA hval
  obtain ⟨v0, v1, v2, d0, d1, d2, p0, p1, p2, rfl, rfl, rfl, h0, h1, h2⟩ := trodAll_three hA
  obtain ⟨rfl, rfl⟩ := trodVars_none hV
  obtain ⟨f, rfl⟩ := open_four (hval 0 42 v0 rfl rfl) h0
  obtain ⟨g, rfl⟩ := open_four (hval 1 42 v1 rfl rfl) h1
  obtain ⟨a0, n, c, rfl⟩ := okWide_slice Try.underlying35 (hval 2 35 v2 rfl rfl)
  obtain ⟨ks, rfl, hk⟩ := open_marks h2
  clear hA0 hval0
  simp only [List.append_nil] at hW'
  refine (kept_walk f g a0 c ks W hk).mono fun e W' ⟨he, hs⟩ => ?_
  subst he
  exact ⟨_, rfl, law_post Try.laidOut hW' hAk (fun t ht => by
      rw [Try.params4] at ht
      simp at ht
      rcases ht with rfl | rfl <;> exact ⟨by kernel_rfl, of_decide_eq_true (by kernel_rfl)⟩) rfl rfl rfl rfl (by kernel_rfl) Try.underlying4 (hs.toBelow (Nat.le_refl _) (fun _ x => x.elim))⟩

theorem devKept_holds : Rows.DevKeptSaid :=
  OpenClaim.holds_of_wide 4 Try.f4 rfl rfl rfl rfl rfl rfl rfl ⟨rfl, rfl, rfl, rfl, rfl⟩ rfl rfl rfl rfl rfl (by kernel_rfl) Try.func4 (by kernel_rfl)
    (of_decide_eq_true (by kernel_rfl)) (by unfold Func.isWrapper; rw [if_neg (of_decide_eq_false (by kernel_rfl))]; exact ⟨rfl, rfl⟩)
    (fun os started H enc _ => devKept_lifted os started H enc)

end Go.Proofs.Ytmbckgebakfceaa
