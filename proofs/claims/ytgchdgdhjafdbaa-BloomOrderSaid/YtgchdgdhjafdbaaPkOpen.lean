/-
  Bytes that come in as an argument: as a slice that reads as bytes; how long they are at most.
-/
import Derived.Test.YtgchdgdhjafdbaaPkB
import Derived.Deep.Slices
import Derived.SizedLaws
import Derived.ProofKit
namespace Go.Proofs.Ytgchdgdhjafdbaa.Pk
open Go.ChangeShapes Go.WideShapes Go.ChangeAt Go.RowKit Go.Deep
set_option maxRecDepth 100000

theorem cells5 : Try.prog.cellsOf 5 = 1 := by kernel_rfl
theorem bytes5 : Try.prog.bytesOf 5 = 1 := by kernel_rfl

theorem byte_of_wf {x : Int} (h : (Lit.int .u8 x).wf = true) : ∃ b : UInt8, Value.int .u8 x = byteV b := by
  have e1 : IntKind.u8.min = 0 := by decide
  have e2 : IntKind.u8.max = 255 := by decide
  simp only [Lit.wf, e1, e2, Bool.and_eq_true, decide_eq_true_eq] at h
  refine ⟨UInt8.ofNat x.toNat, ?_⟩
  have e3 : (UInt8.ofNat x.toNat).toNat = x.toNat := by simp; omega
  unfold byteV
  rw [e3]
  congr 1
  omega

section
variable {H : Type} {enc : TypeId × Value → H}

theorem open_slc {w : World} {d : DataW H} {p : List MemPlace} {a0 : Option Addr} {n c : Nat} (h : DataW.Trod enc Try.prog w 0 (fun _ => true) true 34 (.slice a0 n c) d p) :
    ∃ l : List UInt8, n = l.length ∧ Slc w (.slice a0 n c) l ∧ (0 < l.length → ∃ e s : List (DataW H), d = .slice e s ∧ e.length = l.length) := by
  obtain ⟨fuel, hf⟩ := h
  have hf' : DataW.trod enc Try.prog w 0 (fun _ => true) true fuel 34 [.slice a0 n c] = some (d, p) := hf
  rcases open_slice1 Try.underlying34 cells5 hf' with ⟨h0, _⟩ | ⟨a, len, cap, m, k, V, D, Pl, h0, _, hl, hm, hmm, hd, hx⟩
  · simp at h0
    obtain ⟨rfl, rfl, rfl⟩ := h0
    exact ⟨[], rfl, ⟨none, 0, rfl, fun h => by simp at h, fun _ => rfl, Nat.le_refl _, by decide⟩, fun h => by simp at h⟩
  · simp at h0
    obtain ⟨rfl, rfl, rfl⟩ := h0
    simp only [if_true] at hmm
    subst hmm
    obtain ⟨B, hB⟩ := choose_lt (α := UInt8) (p := fun i b => V i = byteV b) (fun i hi => by
      obtain ⟨x, h1, _, h3⟩ := DataW.trod_int Try.underlying5 (hx i hi).2
      obtain ⟨b, hb⟩ := byte_of_wf h3
      exact ⟨b, by rw [← hb]; simpa using h1⟩)
    have hln : ((List.range n).map B).length = n := by simp
    unfold maxLen at hm
    refine ⟨(List.range n).map B, hln.symm, ⟨some a, _, by rw [hln], fun h0 => ⟨a, rfl, fun j v hv => ?_⟩, (fun h => by cases h), by rw [hln]; exact hl, by omega⟩, fun _ => ?_⟩
    · have hj : j < n := by
        have := (List.getElem?_eq_some_iff.1 hv).1
        rwa [length_cellsB, hln] at this
      rw [(hx j (by omega)).1, hB j (by omega)]
      simp [cellsB, hj] at hv
      rw [← hv]
    · cases hd
      exact ⟨_, _, rfl, by rw [hln]; simp⟩

/-- An argument of bytes takes at most 2^47 of them. -/
theorem len_slc {ts : List TypeId} {ds : List (DataW H)} (hsz : (DataW.weightsEach Try.prog ts ds).all (· ≤ reachBytes) = true) {j : Nat} {d : DataW H} {l : List UInt8} (ht : ts[j]? = some 34) (hd : ds[j]? = some d)
    (hl : 0 < l.length → ∃ e s : List (DataW H), d = .slice e s ∧ e.length = l.length) : l.length ≤ 140737488355328 := by
  rcases Nat.eq_zero_or_pos l.length with h0 | h0
  · omega
  · obtain ⟨e, s, rfl, he⟩ := hl h0
    have h1 := sized_slice hsz ht hd Try.underlying34
    have h2 := reachBytes_lt
    rw [bytes5] at h1
    omega
end

end Go.Proofs.Ytgchdgdhjafdbaa.Pk
