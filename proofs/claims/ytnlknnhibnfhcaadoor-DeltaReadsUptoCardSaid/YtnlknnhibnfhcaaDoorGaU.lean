import Derived.Test.YtnlknnhibnfhcaaDoorNum
import Derived.Test.YtnlknnhibnfhcaaDoorLaw
import Derived.Test.YtnlknnhibnfhcaaDoorPkB
import Derived.Deep.Slices
import Derived.ChangeVars
import Derived.JoinedOf
import Derived.LaidLaws
import Derived.LaidHandle
import Derived.Stop.Joined
import Derived.SizedLaws
import Derived.ProofKit
import Derived.Test.YtnlknnhibnfhcaaDoorDeA
import Derived.Laws.IdiomArrays
import Derived.OpenShut
import Derived.Test.YtnlknnhibnfhcaaDoorRows
import Derived.Lib.SmallJoins
import Derived.Test.YtnlknnhibnfhcaaDoorDeU
import Derived.Test.YtnlknnhibnfhcaaDoorDeO
import Derived.Test.YtnlknnhibnfhcaaDoorDeI
import Derived.Test.YtnlknnhibnfhcaaDoorClass
import Derived.Test.YtnlknnhibnfhcaaDoorHeldS
import Derived.Test.YtnlknnhibnfhcaaDoorDeG
import Derived.Test.YtnlknnhibnfhcaaDoorDeQ
import Derived.Test.YtnlknnhibnfhcaaDoorDeL
import Derived.Test.YtnlknnhibnfhcaaDoorDeS
import Derived.Test.YtnlknnhibnfhcaaDoorDeN
import Derived.Test.YtnlknnhibnfhcaaDoorCards
import Derived.Test.YtnlknnhibnfhcaaDoorTie
import Derived.SevenTiedAt
import Derived.Deep.DeepHandedRow
import Derived.Lib.LaidTab
/-
  What a law over errors.As wants beside its walk: the variable errors.errorType by its handle; a world that meets the condition; bytes that come in as an argument.
-/
namespace Go.Proofs.YtnlknnhibnfhcaaDoor.Pk
open Go.ChangeShapes Go.WideShapes Go.ChangeAt Go.RowKit Go.Deep
set_option maxRecDepth 100000

theorem et_at : Tryd.prog.globalNamed "errors.errorType" = some 0 := by kernel_rfl
theorem rt_at : (Tryd.prog.cutTypes.find? (·.1 == "internal/reflectlite.rtype")).map (·.2) = some 130 := by kernel_rfl
theorem oneRow : ((List.range Tryd.prog.types.size).filter fun t => Tryd.prog.rowNamed t [101, 114, 114, 111, 114]) = [29] := by kernel_rfl

/-- What the rows list. -/
def laidErr : List (String × DataW Unit) := [("errors.errorType", Rows.laid_errors_errorType)]

/-- What the condition gives a walk: the variable's one cell. -/
theorem err_of_laid {W : World} (h : laidMetH Tryd.prog laidErr W) : ErrCell W := by
  have h' : laidMet Tryd.prog [] W ∧ handlesMet Tryd.prog laidErr W := h
  obtain ⟨name, u, ty, e1, e2, e3, e4, e5⟩ := h'.2 _ (List.mem_singleton.2 rfl)
  have en : name = [101, 114, 114, 111, 114] := (Option.some.inj e1).symm
  subst en
  obtain rfl := Option.some.inj (rt_at.symm.trans e2)
  have hm : ty ∈ (List.range Tryd.prog.types.size).filter fun t => Tryd.prog.rowNamed t [101, 114, 114, 111, 114] := List.mem_filter.2 ⟨List.mem_range.2 e3, e4⟩
  rw [oneRow] at hm
  obtain rfl := List.mem_singleton.1 hm
  have hh : typeHandle Tryd.prog 29 = .pointer (some ⟨1, 29, none⟩) := by kernel_rfl
  rw [hh] at e5
  unfold ErrCell hnd
  simpa using World.var?_cell et_at e5 0

/-- A world that meets the condition: the settled one, with the variable's cell laid. -/
noncomputable def laidWorld (os : Os) : World :=
  let w0 := World.holding Tryd.prog os ⟨#[], #[], []⟩
  { w0 with heap := w0.heap.modify 0 fun
      | .cells _ t frozen => .cells #[.iface 130 (.agg #[.pointer (some ⟨1, 29, none⟩)])] t frozen
      | o => o }
theorem laidWorld_met (os : Os) (args : Array Value) : laidMetH Tryd.prog laidErr ((laidWorld os).forCall (fun _ _ => 0) ⟨#[], args, []⟩).memory :=
  laidMetH_of_parts (laidMet_nil _ _) (by kernel_rfl)

theorem ErrCell.stay {X : Nat → Prop} {w w' : World} (h : ErrCell w) (hs : Stay X w w') (hx : ¬ X 0) : ErrCell w' := hs.cell h hx
theorem ErrCell.stay0 {w w' : World} (h : ErrCell w) (hs : Stay (fun _ => False) w w') : ErrCell w' := hs.cell h (fun x => x)

theorem num_any (c : Nat) (w : World) (hg : ErrCell w) (v : Value) (hv : v = if c = 0 then .nilIface else .iface 55 (.int .i64 (c : Int))) : Calls Tryd.prog 15 #[v] w fun e w' => e = .returned (.int .i64 (c : Int)) ∧ Stay (fun _ => False) w w' := by
  subst hv
  by_cases h : c = 0
  · subst h
    exact num_nil w
  · rw [if_neg h]
    exact num_errno (c : Int) w hg

end Go.Proofs.YtnlknnhibnfhcaaDoor.Pk

/-
  Bytes that come in as an argument: as a slice that reads as bytes; how long they are at most.
-/
namespace Go.Proofs.YtnlknnhibnfhcaaDoor.Pk
open Go.ChangeShapes Go.WideShapes Go.ChangeAt Go.RowKit Go.Deep
set_option maxRecDepth 100000

theorem cells5 : Tryd.prog.cellsOf 5 = 1 := by kernel_rfl
theorem bytes5 : Tryd.prog.bytesOf 5 = 1 := by kernel_rfl

theorem byte_of_wf {x : Int} (h : (Lit.int .u8 x).wf = true) : ∃ b : UInt8, Value.int .u8 x = byteV b := by
  have e1 : IntKind.u8.min = 0 := by decide
  have e2 : IntKind.u8.max = 255 := by decide
  simp only [Lit.wf, e1, e2, Bool.and_eq_true, decide_eq_true_eq] at h
  refine ⟨UInt8.ofNat x.toNat, ?_⟩
  have e3 : (UInt8.ofNat x.toNat).toNat = x.toNat := by simp; omega
  unfold byteV
  rw [e3]
  congr 1
  omega

section
variable {H : Type} {enc : TypeId × Value → H}

theorem open_slc {w : World} {d : DataW H} {p : List MemPlace} {a0 : Option Addr} {n c : Nat} (h : DataW.Trod enc Tryd.prog w 0 (fun _ => true) true 25 (.slice a0 n c) d p) :
    ∃ l : List UInt8, n = l.length ∧ Slc w (.slice a0 n c) l ∧ (0 < l.length → ∃ e s : List (DataW H), d = .slice e s ∧ e.length = l.length) := by
  obtain ⟨fuel, hf⟩ := h
  have hf' : DataW.trod enc Tryd.prog w 0 (fun _ => true) true fuel 25 [.slice a0 n c] = some (d, p) := hf
  rcases open_slice1 Tryd.underlying25 cells5 hf' with ⟨h0, _⟩ | ⟨a, len, cap, m, k, V, D, Pl, h0, _, hl, hm, hmm, hd, hx⟩
  · simp at h0
    obtain ⟨rfl, rfl, rfl⟩ := h0
    exact ⟨[], rfl, ⟨none, 0, rfl, fun h => by simp at h, fun _ => rfl, Nat.le_refl _, by decide⟩, fun h => by simp at h⟩
  · simp at h0
    obtain ⟨rfl, rfl, rfl⟩ := h0
    simp only [if_true] at hmm
    subst hmm
    obtain ⟨B, hB⟩ := choose_lt (α := UInt8) (p := fun i b => V i = byteV b) (fun i hi => by
      obtain ⟨x, h1, _, h3⟩ := DataW.trod_int Tryd.underlying5 (hx i hi).2
      obtain ⟨b, hb⟩ := byte_of_wf h3
      exact ⟨b, by rw [← hb]; simpa using h1⟩)
    have hln : ((List.range n).map B).length = n := by simp
    unfold maxLen at hm
    refine ⟨(List.range n).map B, hln.symm, ⟨some a, _, by rw [hln], fun h0 => ⟨a, rfl, fun j v hv => ?_⟩, (fun h => by cases h), by rw [hln]; exact hl, by omega⟩, fun _ => ?_⟩
    · have hj : j < n := by
        have := (List.getElem?_eq_some_iff.1 hv).1
        rwa [length_cellsB, hln] at this
      rw [(hx j (by omega)).1, hB j (by omega)]
      simp [cellsB, hj] at hv
      rw [← hv]
    · cases hd
      exact ⟨_, _, rfl, by rw [hln]; simp⟩

/-- An argument of bytes takes at most 2^47 of them. -/
theorem len_slc {ts : List TypeId} {ds : List (DataW H)} (hsz : (DataW.weightsEach Tryd.prog ts ds).all (· ≤ reachBytes) = true) {j : Nat} {d : DataW H} {l : List UInt8} (ht : ts[j]? = some 25) (hd : ds[j]? = some d)
    (hl : 0 < l.length → ∃ e s : List (DataW H), d = .slice e s ∧ e.length = l.length) : l.length ≤ 140737488355328 := by
  rcases Nat.eq_zero_or_pos l.length with h0 | h0
  · omega
  · obtain ⟨e, s, rfl, he⟩ := hl h0
    have h1 := sized_slice hsz ht hd Tryd.underlying25
    have h2 := reachBytes_lt
    rw [bytes5] at h1
    omega
end

end Go.Proofs.YtnlknnhibnfhcaaDoor.Pk

/-
  delta's laws: their arguments opened: blocks.
-/
namespace Go.Proofs.YtnlknnhibnfhcaaDoor
open Go.ChangeShapes Go.WideShapes Go.ChangeAt Go.RowKit Go.Deep Pk
set_option maxRecDepth 100000

theorem De.i64_wf {x : Int} (h : (Lit.int .i64 x).wf = true) : -9223372036854775808 ≤ x ∧ x ≤ 9223372036854775807 := by
  have e1 : IntKind.i64.min = -9223372036854775808 := by decide
  have e2 : IntKind.i64.max = 9223372036854775807 := by decide
  simp only [Lit.wf, e1, e2, Bool.and_eq_true, decide_eq_true_eq] at h
  exact h
theorem cells_b64 : Tryd.prog.cellsOf 23 = 64 := by kernel_rfl
section
variable {H : Type} {enc : TypeId × Value → H}
theorem open_blk {w : World} {base b0 : Nat} {r : Reach} {v : Value} {d : DataW H} {p : List MemPlace} (hv : Value.okWide Tryd.prog w r b0 23 v) (h : DataW.Trod enc Tryd.prog w base (fun _ => true) true 23 v d p) :
    ∃ l : List UInt8, l.length = 64 ∧ v = arrV l := by
  obtain ⟨cs, rfl, hsz⟩ : ∃ cs, v = .agg cs ∧ cs.size = Tryd.prog.cellsOf 23 := by
    have := hv
    simp only [Value.okWide, Tryd.underlying23] at this
    obtain ⟨cs, e, hs, _⟩ := this
    exact ⟨cs, e, hs⟩
  rw [cells_b64] at hsz
  obtain ⟨fuel, hf⟩ := h
  obtain ⟨xs, m, _, hx, hl, hxl, hall⟩ := DataW.trod_array Tryd.underlying23 hf
  obtain ⟨B, hB⟩ := choose_lt (α := UInt8) (n := 64) (p := fun i b => cs[i]? = some (byteV b)) (fun i hi => by
    have hi' := hall i hi
    obtain ⟨b, hb⟩ : ∃ b, xs[i]? = some b := ⟨_, List.getElem?_eq_getElem (by omega)⟩
    rw [hb, Pk.cells5, Nat.mul_one] at hi'
    obtain ⟨z, hcz, _, wz⟩ := DataW.trod_int Tryd.underlying5 hi'
    obtain ⟨c, hc⟩ := Pk.byte_of_wf wz
    refine ⟨c, ?_⟩
    have := congrArg (·[0]?) hcz
    rw [← hc]
    simpa [List.getElem?_take, List.getElem?_drop, Value.cells] using this)
  refine ⟨(List.range 64).map B, by simp, ?_⟩
  unfold arrV
  congr 1
  apply Array.ext_getElem?
  intro i
  by_cases hi : i < 64
  · rw [hB i hi]
    simp [cellsB, hi]
  · rw [Array.getElem?_eq_none (by omega), Array.getElem?_eq_none (by simp [cellsB]; omega)]

end
end Go.Proofs.YtnlknnhibnfhcaaDoor

/-
  delta's laws: their arguments opened: parts.
-/
namespace Go.Proofs.YtnlknnhibnfhcaaDoor.De
open Go.ChangeShapes Go.WideShapes Go.ChangeAt Go.RowKit Go.Deep Pk
set_option maxRecDepth 100000

instance : Inhabited Po := ⟨⟨tellP [], .slice none 0 0⟩⟩
theorem cells_i : Tryd.prog.cellsOf 3 = 1 := by kernel_rfl
theorem cells_b : Tryd.prog.cellsOf 4 = 1 := by kernel_rfl
theorem cells_sb : Tryd.prog.cellsOf 25 = 1 := by kernel_rfl
theorem cells_pt : Tryd.prog.cellsOf 60 = 4 := by kernel_rfl
theorem bulk_one {H : Type} (d : DataW H) : 1 ≤ Rows.uptoBulk d := by
  cases d with
  | lit l => cases l <;> simp [Rows.uptoBulk]
  | nil => simp [Rows.uptoBulk]
  | ptr d => simp [Rows.uptoBulk]
  | slice elems spare => simp [Rows.uptoBulk]
  | agg parts => simp [Rows.uptoBulk]
  | iface t d => simp [Rows.uptoBulk]
  | map entries => simp [Rows.uptoBulk]
  | held h => simp [Rows.uptoBulk]
theorem bulk_part {H : Type} {d : DataW H} {l : List (DataW H)} (h : d ∈ l) : Rows.uptoBulk d ≤ Rows.uptoBulkAll l := by
  induction l with
  | nil => cases h
  | cons x r ih =>
    simp only [Rows.uptoBulkAll]
    cases List.mem_cons.1 h with
    | inl e => subst e; omega
    | inr e => have := ih e; omega
theorem bulk_length {H : Type} (l : List (DataW H)) : l.length ≤ Rows.uptoBulkAll l := by
  induction l with
  | nil => simp [Rows.uptoBulkAll]
  | cons x r ih => have := bulk_one x; simp only [Rows.uptoBulkAll, List.length_cons]; omega

theorem weights_each {H : Type} {ts : List TypeId} {ds : List (DataW H)} {n : Nat} (hsz : (DataW.weightsEach Tryd.prog ts ds).all (· ≤ n) = true) {j : Nat} {t : TypeId} {d : DataW H} (ht : ts[j]? = some t) (hd : ds[j]? = some d) : (d.weights Tryd.prog t).all (· ≤ n) = true := by
  induction ts generalizing ds j with
  | nil => simp at ht
  | cons t0 ts ih =>
    cases ds with
    | nil => simp at hd
    | cons d0 ds =>
      rw [DataW.weightsEach, List.all_append, Bool.and_eq_true] at hsz
      cases j with
      | zero =>
        simp at ht hd
        subst ht hd
        exact hsz.1
      | succ j => exact ih hsz.2 (by simpa using ht) (by simpa using hd)
section
variable {H : Type} {enc : TypeId × Value → H}

theorem pt_weights (d0 d1 d2 d3 : DataW H) : (DataW.agg [d0, d1, d2, d3]).weights Tryd.prog 60 = DataW.weightsEach Tryd.prog [4, 3, 3, 25] [d0, d1, d2, d3] := by
  simp only [DataW.weights, Tryd.underlying60]
  rfl

/-- A part that came in: what it is, how long its bytes are, and how much it holds. -/
theorem open_part {w : World} {fuel : Nat} {cs : List Value} {x : DataW H × List MemPlace} (h : DataW.trod enc Tryd.prog w 0 (fun _ => true) true fuel 60 cs = some x) :
    ∃ q : Po, cs = poC q ∧ Slc w q.x q.p.b ∧ I64q q.p ∧ ((x.1.weights Tryd.prog 60).all (· ≤ reachBytes) = true → q.p.b.length ≤ 140737488355328) ∧ q.p.b.length + 1 ≤ Rows.uptoBulk x.1 := by
  obtain ⟨y0, y1, y2, y3, m, rfl, hl, g0, g1, g2, g3⟩ := Go.Joins.trod_struct4 Tryd.underlying60 h
  rw [cells_pt] at hl
  simp only [cells_i, cells_b, cells_sb] at g0 g1 g2 g3
  obtain ⟨v0, v1, v2, v3, rfl⟩ : ∃ v0 v1 v2 v3, cs = [v0, v1, v2, v3] := by
    match cs, hl with
    | [v0, v1, v2, v3], _ => exact ⟨v0, v1, v2, v3, rfl⟩
  simp at g0 g1 g2 g3
  obtain ⟨k, e0, _⟩ := DataW.trod_bool Tryd.underlying4 g0
  obtain ⟨f, e1, _, hf⟩ := DataW.trod_int Tryd.underlying3 g1
  obtain ⟨n, e2, _, hn⟩ := DataW.trod_int Tryd.underlying3 g2
  obtain ⟨a3, l3, c3, rfl⟩ : ∃ a0 l c, v3 = .slice a0 l c := by
    rcases open_slice1 Tryd.underlying25 Pk.cells5 g3 with ⟨h0, _⟩ | ⟨a, len, cap, _, _, _, _, _, h0, _⟩
    · exact ⟨none, 0, 0, by simpa using h0⟩
    · exact ⟨some a, len, cap, by simpa using h0⟩
  obtain ⟨b, rfl, hsl, hd⟩ := open_slc (d := y3.1) (p := y3.2) ⟨m, g3⟩
  have hfr := i64_wf hf
  have hnr := i64_wf hn
  simp at e0 e1 e2
  subst e0
  subst e1
  subst e2
  have hlb : (DataW.agg [y0.1, y1.1, y2.1, y3.1]).weights Tryd.prog 60 |>.all (· ≤ reachBytes) → b.length ≤ 140737488355328 := fun hw => by
    rw [pt_weights] at hw
    exact len_slc hw (j := 3) rfl rfl hd
  refine ⟨⟨⟨k, f, n, b⟩, _⟩, rfl, hsl, ⟨hfr.1, hfr.2, hnr.1, hnr.2⟩, hlb, ?_⟩
  show b.length + 1 ≤ _
  simp only [Rows.uptoBulk, Rows.uptoBulkAll]
  rcases Nat.eq_zero_or_pos b.length with h0 | h0
  · have := bulk_one y3.1
    omega
  · obtain ⟨e, s, he, hel⟩ := hd h0
    have h1 : b.length + 1 ≤ Rows.uptoBulk y3.1 := by
      rw [he]
      simp only [Rows.uptoBulk]
      have := bulk_length e
      omega
    omega

theorem weights_in {e : TypeId} {l : List (DataW H)} {d : DataW H} (hd : d ∈ l) {n : Nat} (h : (DataW.weightsAll Tryd.prog e l).all (· ≤ n) = true) : (d.weights Tryd.prog e).all (· ≤ n) = true := by
  induction l with
  | nil => cases hd
  | cons x r ih =>
    rw [DataW.weightsAll, List.all_append, Bool.and_eq_true] at h
    rcases List.mem_cons.1 hd with rfl | hd
    · exact h.1
    · exact ih hd h.2

/-- Parts that came in. -/
theorem open_parts {w : World} {d : DataW H} {p : List MemPlace} {a0 : Option Addr} {n c : Nat} (h : DataW.Trod enc Tryd.prog w 0 (fun _ => true) true 24 (.slice a0 n c) d p) :
    ∃ L : List Po, n = L.length ∧ PsAt w (.slice a0 n c) L ∧ ((d.weights Tryd.prog 24).all (· ≤ reachBytes) = true → ∀ q ∈ L, q.p.b.length ≤ 140737488355328) ∧ ∀ q ∈ L, q.p.b.length + 1 ≤ Rows.uptoBulk d := by
  obtain ⟨fuel, hf⟩ := h
  have hf' : DataW.trod enc Tryd.prog w 0 (fun _ => true) true fuel 24 [.slice a0 n c] = some (d, p) := hf
  rcases open_slice Tryd.underlying24 hf' with ⟨h0, _⟩ | ⟨a, len, cap, m, q, D, Pl, h0, _, hl, hm, hmm, hd, hx⟩
  · simp at h0
    obtain ⟨rfl, rfl, rfl⟩ := h0
    exact ⟨[], rfl, PsAt.nil _, fun _ t h => by simp at h, fun t h => by simp at h⟩
  · simp at h0
    obtain ⟨rfl, rfl, rfl⟩ := h0
    simp only [if_true] at hmm
    subst hmm
    rw [cells_pt] at hx
    cases hd
    obtain ⟨T, hT⟩ := choose_lt (α := Po) (n := n) (p := fun i t => (Slc w t.x t.p.b ∧ I64q t.p ∧ (((D i).weights Tryd.prog 60).all (· ≤ reachBytes) = true → t.p.b.length ≤ 140737488355328) ∧ t.p.b.length + 1 ≤ Rows.uptoBulk (D i)) ∧ ∀ j v, (poC t)[j]? = some v → w.cell? ((a.add (i * 4)).add j) = some v) (fun i hi => by
      obtain ⟨cs', h1, h2⟩ := hx i (by omega)
      obtain ⟨t, rfl, hok⟩ := open_part h2
      obtain ⟨_, hlen, hc⟩ := World.cells?_some h1
      exact ⟨t, hok, fun j v hv => by
        have hj := (List.getElem?_eq_some_iff.1 hv).1
        rw [hc j (by omega), hv]⟩)
    have hln : ((List.range n).map T).length = n := by simp
    have hget : ∀ i t, ((List.range n).map T)[i]? = some t → i < n ∧ t = T i := by
      intro i t h
      have hi := (List.getElem?_eq_some_iff.1 h).1
      rw [hln] at hi
      simp [hi] at h
      exact ⟨hi, h.symm⟩
    have hall : ∀ t ∈ (List.range n).map T, ∃ i, i < n ∧ t = T i := by
      intro t ht
      obtain ⟨i, hi, rfl⟩ := List.mem_map.1 ht
      exact ⟨i, List.mem_range.1 hi, rfl⟩
    unfold maxLen at hm
    refine ⟨(List.range n).map T, hln.symm, ⟨⟨some a, _, by rw [hln], by rw [hln]; exact hl, by omega, fun h0 => ?_⟩, fun t ht => ?_, fun t ht => ?_⟩, fun hw t ht => ?_, fun t ht => ?_⟩
    · rw [hln] at h0
      have ha : a = ⟨a.block, a.off, none⟩ := by
        have h1 := (hT 0 h0).2 0 _ rfl
        have e0 : (a.add (0 * 4)).add 0 = a := rfl
        rw [e0] at h1
        obtain ⟨b, o, sp⟩ := a
        cases sp with
        | none => rfl
        | some q =>
          have : w.cell? ⟨b, o, some q⟩ = none := by unfold World.cell?; split <;> simp
          rw [this] at h1; cases h1
      refine ⟨a.block, a.off, by rw [← ha], fun i t ht j u hu => ?_⟩
      obtain ⟨hi, rfl⟩ := hget i t ht
      have := (hT i hi).2 j u hu
      rw [ha, add_at, add_at] at this
      exact this
    · obtain ⟨i, hi, rfl⟩ := hall t ht
      exact (hT i hi).1.1
    · obtain ⟨i, hi, rfl⟩ := hall t ht
      exact (hT i hi).1.2.1
    · obtain ⟨i, hi, rfl⟩ := hall t ht
      simp only [DataW.weights, Tryd.underlying24, List.all_cons, List.all_append, Bool.and_eq_true] at hw
      exact (hT i hi).1.2.2.1 (weights_in (List.mem_map_of_mem (f := D) (List.mem_range.2 hi)) hw.2.1)
    · obtain ⟨i, hi, rfl⟩ := hall t ht
      have h1 := (hT i hi).1.2.2.2
      simp only [Rows.uptoBulk]
      have h2 := bulk_part (List.mem_map_of_mem (f := D) (List.mem_range.2 hi))
      omega
end
end Go.Proofs.YtnlknnhibnfhcaaDoor.De

/-
  delta, in plain lists: what bytes tell is told by the same bytes again.
-/
namespace Go.Proofs.YtnlknnhibnfhcaaDoor.De
open Go.RowKit Pk

theorem take_inv {α : Type} {rule : List UInt8 → Except Nat (α × List UInt8)} {zero : α} (hr : ∀ b c, rule b = .error c → c ≠ 0) {s : RS} (h : (takeB rule zero s).2.err = 0) :
    s.err = 0 ∧ ∃ v r, rule s.b = .ok (v, r) ∧ takeB rule zero s = (v, ⟨r, 0⟩) := by
  by_cases he : s.err = 0
  · cases hv : rule s.b with
    | error c =>
      rw [takeB_error he hv] at h
      exact absurd h (hr _ _ hv)
    | ok p =>
      obtain ⟨v, r⟩ := p
      exact ⟨he, v, r, rfl, takeB_ok he hv⟩
  · rw [takeB_bad he] at h
    exact absurd h he
theorem tru_inv {b r : List UInt8} {v : Bool} (h : truB b = .ok (v, r)) : b = boolB v ++ r := by
  cases b with
  | nil => cases h
  | cons c l =>
    by_cases h1 : 1 < c.toNat
    · rw [show truB (c :: l) = .error 3 by simp [truB, h1]] at h
      cases h
    · rw [show truB (c :: l) = .ok (c.toNat == 1, l) by simp [truB, h1]] at h
      cases h
      have hc : c = 0 ∨ c = 1 := by
        rcases (by omega : c.toNat = 0 ∨ c.toNat = 1) with h | h
        · exact .inl (UInt8.toNat_inj.1 h)
        · exact .inr (UInt8.toNat_inj.1 h)
      rcases hc with rfl | rfl <;> rfl
theorem text_inv {b r t : List UInt8} (h : textB 64 b = .ok (t, r)) : b = bytesB t ++ r := by
  cases hn : numB M64 b with
  | error c => rw [textB_err (by decide) hn] at h; cases h
  | ok p =>
    obtain ⟨n, r1⟩ := p
    by_cases h1 : (64 : Int) < (n : Int)
    · rw [textB_long (by decide) hn h1] at h; cases h
    · by_cases h2 : r1.length < n
      · rw [textB_end (by decide) hn h1 h2] at h; cases h
      · rw [textB_ok (by decide) hn h1 h2] at h
        cases h
        obtain ⟨e, _⟩ := spell_num hn
        unfold bytesB
        rw [show (r1.take n).length = n by rw [List.length_take]; omega, List.append_assoc, List.take_append_drop]
        exact e
theorem takeP_inv {s : RS} (h : (takeP s).2.err = 0) : s.err = 0 ∧ s.b = ptB (takeP s).1 ++ (takeP s).2.b := by
  have hnum : ∀ b c, numB 64 b = .error c → c ≠ 0 := fun b c hc => by have := numB_err hc; omega
  have htru : ∀ b c, truB b = .error c → c ≠ 0 := fun b c hc => by have := truB_err hc; omega
  have htxt : ∀ b c, textB 64 b = .error c → c ≠ 0 := fun b c hc => by have := textB_codes hc; omega
  unfold takeP at h ⊢
  generalize ht : takeB truB false s = t at *
  obtain ⟨tb, ts⟩ := t
  dsimp only at h ⊢
  cases tb
  · rw [if_neg (by decide)] at h ⊢
    dsimp only at h ⊢
    obtain ⟨h1, t, r, h2, h3⟩ := take_inv htxt h
    obtain ⟨h4, v, r4, h5, h6⟩ := take_inv (zero := false) htru (s := s) (by rw [ht]; exact h1)
    rw [ht] at h6
    obtain ⟨rfl, h7⟩ := Prod.mk.inj h6
    rw [h3]
    refine ⟨h4, ?_⟩
    rw [tru_inv h5]
    subst h7
    dsimp only at h2 ⊢
    rw [text_inv h2]
    unfold ptB tellP
    rw [if_neg (by simp), List.append_assoc]
  · rw [if_pos rfl] at h ⊢
    dsimp only at h ⊢
    obtain ⟨h1, n, r, h2, h3⟩ := take_inv hnum h
    obtain ⟨h8, m, r8, h9, h10⟩ := take_inv hnum h1
    obtain ⟨h4, v, r4, h5, h6⟩ := take_inv (zero := false) htru (s := s) (by rw [ht]; exact h8)
    rw [ht] at h6
    obtain ⟨rfl, h7⟩ := Prod.mk.inj h6
    rw [h3, h10]
    rw [h10] at h2
    refine ⟨h4, ?_⟩
    rw [tru_inv h5]
    subst h7
    dsimp only at h2 h9 ⊢
    obtain ⟨e1, l1⟩ := spell_num h9
    obtain ⟨e2, l2⟩ := spell_num h2
    unfold ptB
    rw [if_pos rfl, u64N_nat l1, u64N_nat l2, e1, e2]
    simp only [List.append_assoc]
theorem takes_inv {s : RS} : ∀ k, (takesN s k).2.err = 0 → s.err = 0 ∧ s.b = (takesN s k).1.flatMap ptB ++ (takesN s k).2.b ∧ (takesN s k).1.length = k
  | 0, h => ⟨h, by simp [takesN], rfl⟩
  | k + 1, h => by
    unfold takesN at h ⊢
    dsimp only at h ⊢
    obtain ⟨h1, h2⟩ := takeP_inv h
    obtain ⟨h3, h4, h5⟩ := takes_inv k h1
    refine ⟨h3, ?_, by rw [List.length_append, h5]; rfl⟩
    rw [h4, h2, List.flatMap_append, List.append_assoc]
    simp
/-- What bytes tell is told by the same bytes again. -/
theorem enc_dec {b : List UInt8} (h : (decN b).2 = 0) : encodeN (decN b).1 = b := by
  have hcnt : ∀ b c, cntB 64 b = .error c → c ≠ 0 := fun b c hc => by have := cntB_err hc; omega
  unfold decN at h ⊢
  generalize hc : takeB (cntB 64) 0 ⟨b, 0⟩ = C at *
  obtain ⟨ci, s0⟩ := C
  dsimp only at h ⊢
  split at h
  · rename_i hd
    rw [if_pos hd]
    dsimp only
    have hd2 : (takesN s0 ci.toNat).2.err = 0 ∧ (takesN s0 ci.toNat).2.b = [] := by
      unfold doneB at hd
      split at hd
      · rename_i h1; exact absurd hd h1
      · rename_i h1
        split at hd
        · cases hd
        · rename_i h2
          exact ⟨by omega, List.eq_nil_of_length_eq_zero (by omega)⟩
    obtain ⟨h1, h2, h3⟩ := takes_inv _ hd2.1
    rw [hd2.2, List.append_nil] at h2
    obtain ⟨_, v, r, h5, h6⟩ := take_inv (zero := (0 : Int)) hcnt (s := ⟨b, 0⟩) (by rw [hc]; exact h1)
    rw [hc] at h6
    obtain ⟨rfl, h7⟩ := Prod.mk.inj h6
    subst h7
    dsimp only at h2 h5
    cases hn : numB (64 : Int).toNat b with
    | error c => rw [cntB_error hn] at h5; cases h5
    | ok p =>
      obtain ⟨n, r1⟩ := p
      by_cases hl : r1.length < n
      · rw [cntB_long hn hl] at h5; cases h5
      · rw [cntB_ok hn hl] at h5
        cases h5
        obtain ⟨e, _⟩ := spell_num hn
        rw [show ((n : Int)).toNat = n by omega] at h2 h3 ⊢
        unfold encodeN
        rw [h3, ← h2]
        exact e.symm
  · cases h
end Go.Proofs.YtnlknnhibnfhcaaDoor.De

/-
  delta's laws: what must come whatever the input is.
-/
namespace Go.Proofs.YtnlknnhibnfhcaaDoor.De
open Go.RowKit Pk
set_option maxRecDepth 100000

/-- A block of one byte and noughts. -/
def oneB (c : UInt8) : List UInt8 := c :: List.replicate 63 0
theorem len_one (c : UInt8) : (oneB c).length = 64 := by simp [oneB]

theorem po_of {L : List Po} {f n : Nat} (h : L.map Po.p = [copyP f n]) : ∃ x, L = [⟨copyP f n, x⟩] := by
  match L, h with
  | [⟨p, x⟩], h =>
    have : p = copyP f n := by simpa using h
    exact ⟨x, by rw [this]⟩

theorem eq_three (W : World) : (Op.equalIn 10000 23 (.agg (cellsB (oneB 3)).toArray) (.agg #[.int .u8 3, .int .u8 0, .int .u8 0, .int .u8 0, .int .u8 0, .int .u8 0, .int .u8 0, .int .u8 0, .int .u8 0, .int .u8 0, .int .u8 0, .int .u8 0, .int .u8 0, .int .u8 0, .int .u8 0, .int .u8 0, .int .u8 0, .int .u8 0, .int .u8 0, .int .u8 0, .int .u8 0, .int .u8 0, .int .u8 0, .int .u8 0, .int .u8 0, .int .u8 0, .int .u8 0, .int .u8 0, .int .u8 0, .int .u8 0, .int .u8 0, .int .u8 0, .int .u8 0, .int .u8 0, .int .u8 0, .int .u8 0, .int .u8 0, .int .u8 0, .int .u8 0, .int .u8 0, .int .u8 0, .int .u8 0, .int .u8 0, .int .u8 0, .int .u8 0, .int .u8 0, .int .u8 0, .int .u8 0, .int .u8 0, .int .u8 0, .int .u8 0, .int .u8 0, .int .u8 0, .int .u8 0, .int .u8 0, .int .u8 0, .int .u8 0, .int .u8 0, .int .u8 0, .int .u8 0, .int .u8 0, .int .u8 0, .int .u8 0, .int .u8 0])).run Tryd.prog W = .ok true W := by
  have h := eq_blk W (oneB 3) (oneB 3) (len_one 3) (len_one 3)
  rw [beq_self_eq_true] at h
  exact h

set_option maxHeartbeats 2000000 in
theorem sure_any (w : World) : Calls Tryd.prog 5 #[] w fun e w' => e = .returned (.bool true) ∧ Stay (fun _ => False) w w' := by
  go_enter Tryd.func5, Tryd.ntmps5
  go_wp2_with fail
  refine (ops_any w (oneB 1) (oneB 1) (len_one 1) (len_one 1)).mono ?_
  rintro e w1 ⟨v, rfl, ⟨L, hL, hv⟩, hs1⟩
  rw [ops_self (len_one 1)] at hL
  obtain ⟨x, rfl⟩ := po_of hL
  obtain ⟨a0, c0, rfl, hc1, hc2, hcell⟩ := hv.ex
  obtain ⟨g, o, rfl, hcl⟩ := hcell (by simp)
  have HCL := Lib.hid (hcl 0 _ rfl)
  clear hL hv hcell hcl hc1 hc2
  go_wp2_with fail
  refine (diff_any w1 (oneB 2) (oneB 3) (len_one 2) (len_one 3)).mono ?_
  rintro e w2 ⟨v2, rfl, how, hs2⟩
  have hlen : (encodeN (opsN (oneB 2) (oneB 3))).length ≤ 140737488355328 := by
    have h1 := sz_all (opsN (oneB 2) (oneB 3))
    have h2 := (ops_len (len_one 2) (len_one 3)).2
    have h3 := len_spell (opsN (oneB 2) (oneB 3)).length
    unfold encodeN
    rw [List.length_append]
    omega
  obtain ⟨b, hb⟩ : ∃ b, b = encodeN (opsN (oneB 2) (oneB 3)) := ⟨_, rfl⟩
  have hpd := patch_diff (len_one 2) (len_one 3)
  rw [← hb] at how hlen hpd
  obtain ⟨a2, c2, rfl⟩ := how.form
  have HO := Lib.hid how.slc
  have HP := Lib.hid hpd
  have HS2 := Lib.hid (hs1.trans hs2)
  clear how hb hpd
  go_wp2_with fail
  refine (patch_any w2 (oneB 2) _ b (len_one 2) HO.out hlen).mono ?_
  rintro e w3 ⟨rfl, hs3⟩
  rw [HP.out]
  have hz2 := HS2.out.size
  have HS3 := Lib.hid (HS2.out.trans hs3)
  have k0 : w3.cell? ⟨g, o, none⟩ = some (.bool true) := (hs2.trans hs3).cell (by have := HCL.out 0 _ rfl; simpa [copyP] using this) (fun x => x)
  have k2 : w3.cell? ⟨g, o + 2, none⟩ = some (.int .i64 64) := (hs2.trans hs3).cell (by have := HCL.out 2 _ rfl; simpa [copyP] using this) (fun x => x)
  have hq := BAt.new w3 23 z64
  have hs4 : Stay (fun _ => False) w3 (w3.alloc (.cells (cellsB z64).toArray 23)) := Stay.alloc _ _
  obtain ⟨w4, hw4⟩ : ∃ w4, w3.alloc (.cells (cellsB z64).toArray 23) = w4 := ⟨_, rfl⟩
  rw [hw4] at hq hs4
  have HQ := Lib.hid hq
  have HS4 := Lib.hid (HS3.out.trans hs4)
  have W4 := Lib.hid hw4
  have k04 := hs4.cell k0 (fun x => x)
  have k24 := hs4.cell k2 (fun x => x)
  have hz3 := HS3.out.size
  have hgl : g < w3.heap.size := World.block_lt_of_cell? w3 _ k0
  clear hs1 hs2 hs3 hq hs4 hw4 k0 k2
  rw [show resB (.ok (oneB 3)) = oneB 3 from rfl, show errV (resE (.ok (oneB 3))) = .nilIface from rfl]
  have keq := eq_three
  go_wp2_with (first
    | (with_reducible refine arr_64.alloc rfl rfl ?_; rw [show List.replicate 64 0 = z64 from rfl, W4.out])
    | (refine arr_64.store rfl (.tmp 2) (.tmp 13) rfl w3.heap.size rfl z64 (oneB 3) rfl len_z64 (len_one 3) HQ.out ?_
       intro w5 h5 s5
       have k05 := s5.cell k04 (fun e => by have e' : g = w3.heap.size := e; omega)
       have k25 := s5.cell k24 (fun e => by have e' : g = w3.heap.size := e; omega)
       have HS5 := Lib.hid ((HS4.out.mono (Y := fun j => w.heap.size ≤ j) (fun _ x => x.elim)).trans (s5.mono (fun j e => by have e' : j = w3.heap.size := e; omega)))
       have HLD := Lib.hid (arr_64.run_load (len_one 3) h5)
       clear h5 s5)
    | (refine wpList_load_run rfl 23 (.tmp 2) rfl ⟨w3.heap.size, 0, none⟩ rfl _ HLD.out ?_; unfold arrV))
  go_ret
  exact ⟨rfl, stay_seal HS5.out (fun j hj => hj)⟩
end Go.Proofs.YtnlknnhibnfhcaaDoor.De

/-
  delta's laws: parts given to the program.
-/
namespace Go.Proofs.YtnlknnhibnfhcaaDoor.De
open Go.RowKit Pk
set_option maxRecDepth 100000

theorem slc_blk {w : World} {x : Value} {b : List UInt8} (h : Slc w x b) (h0 : 0 < b.length) : ∃ j, x.ownBlock = some j := by
  obtain ⟨a9, c9, e9, hr9, _⟩ := h
  obtain ⟨ad, e8, _⟩ := hr9 h0
  exact ⟨ad.block, by rw [e9, e8]; rfl⟩

set_option maxHeartbeats 4000000 in
theorem give_any (w : World) (v : Value) (L : List Po) (hv : PsAt w v L) (hn : L.length ≤ 200) (hb : ∀ q ∈ L, q.p.b.length ≤ 140737488355328) :
    Calls Tryd.prog 9 #[v] w fun e w' => (∃ v1, e = .returned v1 ∧ ∃ L1 : List Po, L1.map Po.p = L.map Po.p ∧ PsAt w' v1 L1) ∧ Stay (fun _ => False) w w' := by
  obtain ⟨i0, hi, hz0, hz1, hz2⟩ := info_parts info5
  have HI := Lib.hid hi
  have HZ0 := Lib.hid hz0
  have HZ1 := Lib.hid hz1
  have HZ2 := Lib.hid hz2
  have HV := Lib.hid hv
  have HB := Lib.hid hb
  obtain ⟨a0, c0, rfl, hc1, hc2, hcell⟩ := hv.ex
  have HC := Lib.hid hcell
  clear hi hz0 hz1 hz2 hv hb hcell
  go_enter Tryd.func9, Tryd.ntmps9
  go_wp2
  go_loopw [3, 4] (fun m i wr => ∃ k : Nat, k ≤ L.length ∧ i = .int .i64 (k : Int) ∧ (∃ L1 : List Po, L1.map Po.p = (L.map Po.p).take k ∧ L1.length = k ∧ PsOwn 49 w.heap.size wr m L1) ∧ Stay (fun _ => False) w wr) (fun _ i _ => L.length - (intOf i).toNat)
  case atStart => exact ⟨0, Nat.zero_le _, rfl, ⟨[], by simp, rfl, PsOwn.nil _ _ _⟩, Stay.refl _ _⟩
  case round =>
    obtain ⟨k, hk, rfl, ⟨L1, hL1, hLk, ho⟩, hst⟩ := hrel
    have HT := Lib.hid hst
    have HO := Lib.hid ho
    have HL1 := Lib.hid hL1
    have HLK := Lib.hid hLk
    obtain ⟨ma, mc, rfl⟩ := ho.form
    rw [hLk] at HO ⊢
    have hzr := hst.size
    clear hst ho hL1 hLk
    by_cases hlt : k < L.length
    · obtain ⟨⟨q, x⟩, hq⟩ : ∃ q, L[k]? = some q := ⟨_, List.getElem?_eq_getElem hlt⟩
      obtain ⟨g, o, rfl, hcl⟩ := HC.out (by omega)
      have hsl : Slc w x q.b := HV.out.slc _ (List.mem_of_getElem? hq)
      have hi64 : I64q q := HV.out.i64 _ (List.mem_of_getElem? hq)
      have hbm : q.b.length ≤ 140737488355328 := HB.out _ (List.mem_of_getElem? hq)
      obtain ⟨xa, xc, rfl⟩ := Slc.form hsl
      have hcl' := fun j u hu => HT.out.cell (hcl k _ hq j u hu) (fun x => x)
      have HCL := Lib.hid hcl'
      have ks := Lib.hid (pt_ref.run_load (w := wr) (g := g) (o := o + k * 4) (q := ⟨q, .slice xa q.b.length xc⟩) hcl')
      have HTK := Lib.hid (show (L.map Po.p).take (k + 1) = (L.map Po.p).take k ++ [q] by rw [List.take_add_one, map_at hq]; rfl)
      have hq4 := PoAt.new wr 49 ⟨q, .slice xa q.b.length xc⟩
      have hs4 : Stay (fun _ => False) wr (wr.alloc (.cells (poC ⟨q, .slice xa q.b.length xc⟩).toArray 49)) := Stay.alloc _ _
      obtain ⟨w4, hw4⟩ : ∃ w4, wr.alloc (.cells #[.bool q.cp, .int .i64 q.f, .int .i64 q.n, .slice xa q.b.length xc] 49) = w4 := ⟨_, rfl⟩
      rw [show wr.alloc (.cells (poC ⟨q, .slice xa q.b.length xc⟩).toArray 49) = w4 from hw4] at hs4 hq4
      have HQ4 := Lib.hid hq4
      have HS4 := Lib.hid hs4
      have HSL4 := Lib.hid ((hsl.stay0 HT.out).stay0 hs4)
      have k3 : wr.cell? ⟨g, o + k * 4 + 3, none⟩ = some (.slice xa q.b.length xc) := hcl' 3 _ rfl
      have hz4 : w4.heap.size = wr.heap.size + 1 := by rw [← hw4]; simp
      have k43 : (wr.alloc (.cells #[.bool q.cp, .int .i64 q.f, .int .i64 q.n, .slice xa q.b.length xc] 49)).cell? ⟨g, o + k * 4 + 3, none⟩ = some (.slice xa q.b.length xc) := (Stay.alloc (X := fun _ => False) wr _).cell k3 (fun x => x)
      have HNIL := Lib.hid (Owns.nil (wr.heap.size + 1) w4)
      have W4 := Lib.hid hw4
      have HI64 := Lib.hid hi64
      clear hq hcl hcl' hsl hi64 hq4 hs4 hw4
      go_wp2_with (first
        | (refine wpList_load_run rfl 60 (.tmp 15) rfl ⟨g, o + k * 4, none⟩ rfl _ ks.out ?_; unfold poV poC)
        | (rw [E6.out]; refine wpList_load_run rfl 49 (.tmp 5) rfl ⟨wr.heap.size, 0, none⟩ rfl _ HLD6.out ?_; unfold poV poC)
        | (at_builtin
           first
             | (rw [W4.out]
                refine wpList_append_slc rfl (.tmp 17) (.tmp 22) 25 rfl (wr.heap.size + 1) i0 Tryd.underlying25 HI.out HZ0.out HZ1.out HZ2.out (.slice none 0 0) (.slice xa q.b.length xc) [] q.b rfl rfl HNIL.out HSL4.out (by simp; exact hbm) (by omega) ?_
                intro v5 w5 hown hgr hnn
                have s5 : Stay (fun _ => False) w4 w5 := Stay.grown hgr (fun k hk => by cases hk)
                rw [List.nil_append] at hown
                obtain ⟨a5, c5, rfl⟩ := hown.form
                have q5 := HQ4.out.stay0 s5
                have f5 := q5.fr 3
                have c53 : w5.cell? ⟨wr.heap.size, 3, none⟩ = some (.slice xa q.b.length xc) := q5.c 3
                have q6 := q5.set3 (.slice a5 q.b.length c5) q.b
                have s6 : Stay (fun j => j = wr.heap.size) w5 (w5.setCell ⟨wr.heap.size, 3, none⟩ (.slice a5 q.b.length c5)) := Stay.setCell (X := fun j => j = wr.heap.size) _ _ _ rfl
                have o6 := hown.stay s6 (fun j hj e => by have := (hown.lt j hj).1; omega)
                obtain ⟨w6, hw6⟩ : ∃ w6, w5.setCell ⟨wr.heap.size, 3, none⟩ (.slice a5 q.b.length c5) = w6 := ⟨_, rfl⟩
                rw [hw6] at q6 s6 o6
                have HS6 := Lib.hid (stay_seal (X := fun j => wr.heap.size ≤ j) (((HS4.out.trans s5).mono (fun _ x => x.elim)).trans (s6.mono (fun j e => by omega))) (fun j hj => hj))
                have E6 := Lib.hid hw6
                have HO6 := Lib.hid o6
                have HLD6 := Lib.hid (q6.run pt_prog)
                clear hown hgr hnn s5 q5 q6 s6 o6 hw6)
             | (have hs7 : Stay (fun _ => False) w6 (w6.alloc (.cells (poC ⟨q, .slice a5 q.b.length c5⟩).toArray 49)) := Stay.alloc _ _
                have hq7 := fun j u (hu : (poC ⟨q, .slice a5 q.b.length c5⟩)[j]? = some u) => show (w6.alloc (.cells (poC ⟨q, .slice a5 q.b.length c5⟩).toArray 49)).cell? ⟨w6.heap.size, j, none⟩ = some u by
                  rw [cell_of_row _ _ j _ _ _ (heap_alloc_new _ _)]
                  simpa using hu
                obtain ⟨w7, hw7⟩ : ∃ w7, w6.alloc (.cells #[.bool q.cp, .int .i64 q.f, .int .i64 q.n, .slice a5 q.b.length c5] 49) = w7 := ⟨_, rfl⟩
                rw [show w6.alloc (.cells (poC ⟨q, .slice a5 q.b.length c5⟩).toArray 49) = w7 from hw7] at hs7 hq7
                rw [hw7]
                have hs67 := HS6.out.trans hs7
                have hz7 := hs67.size
                refine append_po pt_prog Tryd.underlying27 rfl (.tmp 25) (.tmp 27) rfl rfl w6.heap.size rfl ⟨q, .slice a5 q.b.length c5⟩ (HO.out.stay0 hs67) hq7 (HO6.out.slc.stay0 hs7) HI64.out (fun h0 e => by obtain ⟨j, hj⟩ := slc_blk HO6.out.slc h0; have h1 := (HO6.out.lt j hj).1; rw [e] at hj; have h2 := (HO.out.lt j hj).2; omega) (one_po _ _ _ _ rfl) (by rw [HLK.out]; omega) (by omega) ?_
                intro v8 w8 ho8 hs8 hn8
                obtain ⟨a8, c8, rfl⟩ := ho8.form
                rw [List.length_append, List.length_singleton] at ho8
                have HO8 := Lib.hid ho8
                have HS8 := Lib.hid (hs67.trans'' hs8)
                clear ho8 hs8 hn8 hs7 hq7 hw7 hs67)))
      refine ⟨⟨k + 1, by omega, by go_num, ⟨L1 ++ [⟨q, .slice a5 q.b.length c5⟩], by rw [List.map_append, HL1.out, HTK.out]; rfl, by rw [List.length_append, List.length_singleton, HLK.out], HO8.out⟩, stay_seal (X := fun j => w.heap.size ≤ j) ((HT.out.mono (fun _ x => x.elim)).trans (HS8.out.mono (fun j e => (HO.out.lt j e).1))) (fun j hj => hj)⟩, by simp [intOf]; omega⟩
    · obtain rfl : k = L.length := by omega
      go_wp2
      go_ret
      exact ⟨⟨_, rfl, L1, by rw [HL1.out, List.take_of_length_le (by simp)], HO.out.at⟩, HT.out⟩
end Go.Proofs.YtnlknnhibnfhcaaDoor.De

/-
  delta's laws: parts held against each other.
-/
namespace Go.Proofs.YtnlknnhibnfhcaaDoor.De
open Go.RowKit Pk
set_option maxRecDepth 100000

set_option maxHeartbeats 2000000 in
theorem same_any (w : World) (v1 v2 : Value) (L1 L2 : List Po) (h1 : PsAt w v1 L1) (h2 : PsAt w v2 L2) (he : L1.map Po.p = L2.map Po.p) :
    Calls Tryd.prog 14 #[v1, v2] w fun e w' => e = .returned (.bool true) ∧ Stay (fun _ => False) w w' := by
  have hlen : L2.length = L1.length := by rw [← List.length_map (f := Po.p), ← he, List.length_map]
  have HV1 := Lib.hid h1
  have HV2 := Lib.hid h2
  have HE := Lib.hid he
  have HLEN := Lib.hid hlen
  obtain ⟨a1, c1, rfl, hc1, hc2, hcell1⟩ := h1.ex
  obtain ⟨a2, c2, rfl, _, _, hcell2⟩ := h2.ex
  have HC1 := Lib.hid hcell1
  have HC2 := Lib.hid hcell2
  rw [hlen]
  have hself : ((L1.length : Int) == (L1.length : Int)) = true := beq_self_eq_true _
  clear h1 h2 he hcell1 hcell2 hlen
  go_enter Tryd.func14, Tryd.ntmps14
  go_wp2
  go_loopw [5] (fun i wr => ∃ k : Nat, k ≤ L1.length ∧ i = .int .i64 (k : Int) ∧ Stay (fun _ => False) w wr) (fun i _ => L1.length - (intOf i).toNat)
  case atStart => exact ⟨0, Nat.zero_le _, rfl, Stay.refl _ _⟩
  case round =>
    obtain ⟨k, hk, rfl, hst⟩ := hrel
    have HT := Lib.hid hst
    clear hst
    by_cases hlt : k < L1.length
    · obtain ⟨⟨q, x⟩, hq⟩ : ∃ q, L1[k]? = some q := ⟨_, List.getElem?_eq_getElem hlt⟩
      obtain ⟨⟨q2, y⟩, hq2⟩ : ∃ q, L2[k]? = some q := ⟨_, List.getElem?_eq_getElem (by rw [HLEN.out]; omega)⟩
      have hqq : q2 = q := by
        have e1 := map_at hq
        have e2 := map_at hq2
        rw [HE.out, e2] at e1
        exact Option.some.inj e1
      subst hqq
      obtain ⟨g1, o1, rfl, hcl1⟩ := HC1.out (by omega)
      obtain ⟨g2, o2, rfl, hcl2⟩ := HC2.out (by rw [HLEN.out]; omega)
      have hs1 : Slc w x q2.b := HV1.out.slc _ (List.mem_of_getElem? hq)
      have hs2 : Slc w y q2.b := HV2.out.slc _ (List.mem_of_getElem? hq2)
      obtain ⟨xa, xc, rfl⟩ := Slc.form hs1
      obtain ⟨ya, yc, rfl⟩ := Slc.form hs2
      have HCL1 := Lib.hid (hcl1 k _ hq)
      have HCL2 := Lib.hid (hcl2 k _ hq2)
      have HS1 := Lib.hid hs1
      have HS2 := Lib.hid hs2
      obtain ⟨D, hDd⟩ : ∃ D : World → Prop, D = Stay (fun _ => False) wr := ⟨_, rfl⟩
      have HD := Lib.hid (show ∀ W, D W → Stay (fun _ => False) w W by intro W h; rw [hDd] at h; exact HT.out.trans h)
      have HDm := Lib.hid (show ∀ W, Stay (fun _ => False) wr W → D W by intro W h; rw [hDd]; exact h)
      clear hDd hcl1 hcl2 hs1 hs2 hq hq2
      have HN0 := Lib.hid (HDm.out wr.drew Stay.drew)
      haveI : Nonempty (InC D) := ⟨⟨_, HN0.out⟩⟩
      obtain ⟨cp, f, n, b⟩ := q2
      dsimp only at *
      have k10 := fun i : InC D => show i.w.cell? ⟨g1, o1 + k * 4, none⟩ = some (.bool cp) from (HD.out _ i.h).cell (HCL1.out 0 _ rfl) (fun x => x)
      have k11 := fun i : InC D => show i.w.cell? ⟨g1, o1 + k * 4 + 1, none⟩ = some (.int .i64 f) from (HD.out _ i.h).cell (HCL1.out 1 _ rfl) (fun x => x)
      have k12 := fun i : InC D => show i.w.cell? ⟨g1, o1 + k * 4 + 2, none⟩ = some (.int .i64 n) from (HD.out _ i.h).cell (HCL1.out 2 _ rfl) (fun x => x)
      have k13 := fun i : InC D => show i.w.cell? ⟨g1, o1 + k * 4 + 3, none⟩ = some (.slice xa b.length xc) from (HD.out _ i.h).cell (HCL1.out 3 _ rfl) (fun x => x)
      have k20 := fun i : InC D => show i.w.cell? ⟨g2, o2 + k * 4, none⟩ = some (.bool cp) from (HD.out _ i.h).cell (HCL2.out 0 _ rfl) (fun x => x)
      have k21 := fun i : InC D => show i.w.cell? ⟨g2, o2 + k * 4 + 1, none⟩ = some (.int .i64 f) from (HD.out _ i.h).cell (HCL2.out 1 _ rfl) (fun x => x)
      have k22 := fun i : InC D => show i.w.cell? ⟨g2, o2 + k * 4 + 2, none⟩ = some (.int .i64 n) from (HD.out _ i.h).cell (HCL2.out 2 _ rfl) (fun x => x)
      have k23 := fun i : InC D => show i.w.cell? ⟨g2, o2 + k * 4 + 3, none⟩ = some (.slice ya b.length yc) from (HD.out _ i.h).cell (HCL2.out 3 _ rfl) (fun x => x)
      have cv1 := fun i : InC D => conv_slc (HS1.out.stay0 (HD.out _ i.h))
      have cv2 := fun i : InC D => conv_slc (HS2.out.stay0 (HD.out _ i.h))
      unfold strV at cv1 cv2
      go_wp2
      refine wp_region_class D HN0.out (by kernel_rfl) (by kernel_rfl) ?_
      try go_frame
      repeat (go_big_quiet_step (fail))
      refine wpQuiet_nil ?_
      rintro W ⟨i, rfl⟩
      have hs := HD.out _ i.h
      clear k10 k11 k12 k13 k20 k21 k22 k23 cv1 cv2
      generalize i.w = w9 at *
      go_wp2
      refine ⟨⟨k + 1, by omega, by go_num, hs⟩, by simp [intOf]; omega⟩
    · obtain rfl : k = L1.length := by omega
      go_wp2
      go_ret
      exact ⟨rfl, HT.out⟩
end Go.Proofs.YtnlknnhibnfhcaaDoor.De

/-
  A region that draws, held against a state: the state narrowed behind a call.
-/
namespace Go.Proofs.YtnlknnhibnfhcaaDoor
open Go.RowKit
set_option maxRecDepth 100000

/-- What S asks may be narrowed where one stands. -/
theorem wpAnyH_narrow {P : Program} {ops : Array Oper} {Q : Exit → Act → World → Prop} {md : Region.Mode} {S S' : World → Prop} (hSS : ∀ w, S' w → S w) : ∀ (fuel : Nat) (listed : Array Bool) (a : Act) (w : World), wpAnyH P md ops Q S' fuel listed a w → wpAnyH P md ops Q S fuel listed a w
  | 0, _, _, _, h => h
  | fuel + 1, _, _, _, h => ⟨h.1, fun i hi => wpOp_mono (fun a' w' h' => ⟨hSS _ h'.1, wpAnyH_narrow hSS fuel _ a' w' h'.2⟩) (h.2 i hi)⟩

end Go.Proofs.YtnlknnhibnfhcaaDoor

/-
  delta: the parts of bytes are few and short.
-/
namespace Go.Proofs.YtnlknnhibnfhcaaDoor.De
open Go.RowKit Pk
set_option maxRecDepth 100000

theorem text_64 (s : RS) : (takeB (textB 64) [] s).1.length ≤ 64 := by
  by_cases he : s.err = 0
  · cases h : textB 64 s.b with
    | error c => rw [takeB_error he h]; exact Nat.zero_le _
    | ok p =>
      obtain ⟨t, r⟩ := p
      rw [takeB_ok he h]
      cases hn : numB M64 s.b with
      | error c => rw [textB_err (by decide) hn] at h; cases h
      | ok p =>
        obtain ⟨n, r1⟩ := p
        by_cases h1 : (64 : Int) < (n : Int)
        · rw [textB_long (by decide) hn h1] at h; cases h
        · by_cases h2 : r1.length < n
          · rw [textB_end (by decide) hn h1 h2] at h; cases h
          · rw [textB_ok (by decide) hn h1 h2] at h
            cases h
            rw [List.length_take]
            omega
  · rw [takeB_bad he]; exact Nat.zero_le _
theorem sz_le : ∀ (l : List Pt) (m : Nat), (∀ q ∈ l, q.b.length ≤ m) → szN l ≤ 32 + l.length * (m + 32)
  | [], m, _ => by simp [szN]
  | q :: r, m, h => by
    have h1 := h q (List.mem_cons_self ..)
    have h2 := sz_le r m (fun q hq => h q (List.mem_cons_of_mem _ hq))
    rw [List.length_cons, Nat.succ_mul]
    unfold szN
    omega
theorem takes_small (s : RS) : ∀ k, (takesN s k).1.length = k ∧ ∀ q ∈ (takesN s k).1, q.b.length ≤ 64
  | 0 => ⟨rfl, fun q hq => (List.not_mem_nil hq).elim⟩
  | k + 1 => by
    obtain ⟨h1, h2⟩ := takes_small s k
    unfold takesN
    refine ⟨by rw [List.length_append, h1]; rfl, fun q hq => ?_⟩
    rcases List.mem_append.1 hq with hq | hq
    · exact h2 q hq
    · obtain rfl := List.mem_singleton.1 hq
      unfold takeP
      split
      · exact Nat.zero_le _
      · exact text_64 _
theorem dec_small (b : List UInt8) : (decN b).1.length ≤ 64 ∧ szN (decN b).1 ≤ 8192 := by
  unfold decN
  split
  · have h := takes_small (takeB (cntB 64) 0 ⟨b, 0⟩).2 (takeB (cntB 64) 0 ⟨b, 0⟩).1.toNat
    have hc := take_cnt_le ⟨b, 0⟩
    have h2 := sz_le _ 64 h.2
    dsimp only
    rw [h.1] at h2 ⊢
    omega
  · exact ⟨Nat.zero_le _, by decide⟩

theorem dec_each (b : List UInt8) : ∀ q ∈ (decN b).1, q.b.length ≤ 64 := by
  unfold decN
  split
  · exact (takes_small (takeB (cntB 64) 0 ⟨b, 0⟩).2 (takeB (cntB 64) 0 ⟨b, 0⟩).1.toNat).2
  · intro q hq
    exact (List.not_mem_nil hq).elim
theorem each_of {L : List Po} {l : List Pt} (h : L.map Po.p = l) (hl : ∀ q ∈ l, q.b.length ≤ 64) : ∀ q ∈ L, q.p.b.length ≤ 140737488355328 := fun q hq => by
  have := hl q.p (h ▸ List.mem_map_of_mem hq)
  omega
theorem patch_zero {a b : List UInt8} (h : (decN b).2 = 0) : patchR a b = applyN a (decN b).1 [] := by unfold patchR; rw [if_pos h]
theorem patch_bad {a b : List UInt8} (h : (decN b).2 ≠ 0) : patchR a b = .error (decN b).2 := by unfold patchR; rw [if_neg h]
theorem patch_len (a b : List UInt8) : (resB (patchR a b)).length = 64 := by
  unfold patchR
  split
  · exact resB_len a _
  · exact len_z64
theorem stay_nil {w w' : World} (h : w.grownBy w' (Value.slice none 0 0).ownBlock) : Stay (fun _ => False) w w' := Stay.grown (X := fun _ => False) h (fun k e => by cases e)
end Go.Proofs.YtnlknnhibnfhcaaDoor.De

/-
  delta's laws: steps of a region that draws: blocks stored.
-/
namespace Go.Proofs.YtnlknnhibnfhcaaDoor.De
open Go.RowKit Pk
set_option maxRecDepth 100000

theorem step_store_blk {ops : Array Oper} {Q : Exit → Act → World → Prop} {o : Oper} {a : Act} {w : World} {K : Act → World → Prop} {E : Prop} (hw : Region.wanted o (yielded ops a.tmps) = true) (x y : Operand) (ho : o.op = .store 23 x y)
    (g : Nat) (hx : a.eval x = .pointer (some ⟨g, 0, none⟩)) (l0 l : List UInt8) (hl0 : l0.length = 64) (hl : l.length = 64) (hy : a.eval y = arrV l) (hg : BAt w g 23 l0)
    (hn : ∀ w', BAt w' g 23 l → Stay (· = g) w w' → K (a.put o.dst undef) w') : if Region.wanted o (yielded ops a.tmps) = true then Oper.wp Tryd.prog o a w K Q else E := by
  have hsp : splice (cellsB l0) 0 (cellsB l) = cellsB l := splice_full l0 l (by omega)
  refine step_store_run hw 23 x y ho _ hx _ hy _ (run_storeVar_mid (P := Tryd.prog) w g 0 23 23 (cellsB l0) (cellsB l) hg (by rw [length_cellsB, hl]; exact arr_64.info) (by rw [length_cellsB, length_cellsB]; omega) (oneCell_cellsB _)) (hn _ ?_ (Stay.setRow w g _ rfl))
  have h1 := setRow_heap w g _ (splice (cellsB l0) 0 (cellsB l)).toArray 23 _ hg
  rw [hsp] at h1 ⊢
  exact h1
/-- A number of an error. -/
theorem num_res (c : Nat) (w : World) (hg : ErrCell w) : Calls Tryd.prog 15 #[errV c] w fun e w' => e = .returned (.int .i64 (c : Int)) ∧ Stay (fun _ => False) w w' := num_any c w hg (errV c) rfl
end Go.Proofs.YtnlknnhibnfhcaaDoor.De

/-
  delta's laws: DeltaReads, walked.
-/
namespace Go.Proofs.YtnlknnhibnfhcaaDoor.De
open Go.RowKit Pk
set_option maxRecDepth 100000

set_option maxHeartbeats 16000000 in
theorem reads_walk (w : World) (a : List UInt8) (v : Value) (L : List Po) (x : Value) (b : List UInt8) (hg : ErrCell w) (ha : a.length = 64) (hv : PsAt w v L) (hx : Slc w x b) (hlen : b.length ≤ 140737488355328) (hmx : ∀ q ∈ L, q.p.b.length ≤ 1048576) :
    Calls Tryd.prog 3 #[arrV a, v, x] w fun e w' => e = .returned (.bool true) ∧ Stay (fun _ => False) w w' := by
  obtain ⟨i0, hi, hz0, hz1, hz2⟩ := info_parts info5
  have HI := Lib.hid hi
  have HZ0 := Lib.hid hz0
  have HZ1 := Lib.hid hz1
  have HZ2 := Lib.hid hz2
  have h0 := BAt.new w 23 a
  have hs0 : Stay (fun _ => False) w (w.alloc (.cells (cellsB a).toArray 23)) := Stay.alloc _ _
  obtain ⟨w1, hw1⟩ : ∃ w1, w.alloc (.cells (cellsB a).toArray 23) = w1 := ⟨_, rfl⟩
  rw [hw1] at h0 hs0
  have HA := Lib.hid ha
  have H0 := Lib.hid h0
  have HS0 := Lib.hid hs0
  have W1 := Lib.hid hw1
  have HG0 := Lib.hid hg
  obtain ⟨a0, c0, rfl⟩ := hv.form
  obtain ⟨xa, xc, rfl⟩ := Slc.form hx
  have HV0 := Lib.hid (hv.stay0 hs0)
  have HX0 := Lib.hid (hx.stay0 hs0)
  have HNIL := Lib.hid (Owns.nil w1.heap.size w1)
  have HL := Lib.hid hlen
  have HM := Lib.hid hmx
  clear hi hz0 hz1 hz2 ha h0 hs0 hw1 hg hv hx hlen hmx
  unfold arrV
  by_cases h200 : 200 < L.length
  · have h200' : (200 : Int) < (L.length : Int) := by omega
    go_enter Tryd.func3, Tryd.ntmps3
    go_wp2_with fail
    rw [W1.out]
    refine (sure_any w1).mono ?_
    rintro e w2 ⟨rfl, hs2⟩
    go_wp2
    go_ret
    exact ⟨rfl, HS0.out.trans hs2⟩
  · have h200' : ¬ ((200 : Int) < (L.length : Int)) := by omega
    have hsz : szN (L.map Po.p) ≤ 140737488355328 := by
      have h := sz_le (L.map Po.p) 1048576 (fun q hq => by obtain ⟨z, hz, rfl⟩ := List.mem_map.1 hq; exact HM.out z hz)
      rw [List.length_map] at h
      have : L.length * (1048576 + 32) ≤ 200 * (1048576 + 32) := Nat.mul_le_mul_right _ (by omega)
      omega
    have HSZ := Lib.hid hsz
    have HMX := Lib.hid (fun q hq => Nat.le_trans (HM.out q hq) (by decide : 1048576 ≤ 140737488355328))
    obtain ⟨EN, hEN⟩ : ∃ EN, EN = encodeN (L.map Po.p) := ⟨_, rfl⟩
    have HEN := Lib.hid hEN
    clear hEN
    obtain ⟨rb, hrb⟩ : ∃ rb, rb = resB (applyN a (L.map Po.p) []) := ⟨_, rfl⟩
    obtain ⟨ec, hec⟩ : ∃ ec, ec = resE (applyN a (L.map Po.p) []) := ⟨_, rfl⟩
    obtain ⟨ev, hev⟩ : ∃ ev, ev = errV ec := ⟨_, rfl⟩
    have hrl : rb.length = 64 := by rw [hrb]; exact resB_len a _
    have HRB := Lib.hid hrb
    have HEC := Lib.hid hec
    have HEV := Lib.hid hev
    have HRL := Lib.hid hrl
    clear hrb hec hev hrl HM hsz
    go_enter Tryd.func3, Tryd.ntmps3
    go_wp2_with (at_builtin; rw [W1.out]; refine wpList_append_slc rfl (.tmp 24) (.tmp 25) 25 rfl w1.heap.size i0 Tryd.underlying25 HI.out HZ0.out HZ1.out HZ2.out (.slice none 0 0) (.slice xa b.length xc) [] b rfl rfl HNIL.out HX0.out (by simp; exact HL.out) (Nat.le_refl _) ?_; intro v2 w2 hown hgr hnn; have hs2 := stay_nil hgr; rw [List.nil_append] at hown; obtain ⟨a7, c7, rfl⟩ := hown.form; have HM2 := Lib.hid hown.slc; have HS2 := Lib.hid hs2; clear hown hgr hnn hs2)
    refine (decode_any w2 _ b HM2.out HL.out).mono ?_
    rintro e w3 ⟨⟨x1, rfl, L1, hL1, hv1⟩, hs3⟩
    obtain ⟨a1, c1, rfl⟩ := hv1.form
    have HL1 := Lib.hid hL1
    have HV1 := Lib.hid hv1
    have HS23 := Lib.hid hs3
    have HS3 := Lib.hid (HS2.out.trans hs3)
    have HD := Lib.hid (rdecode_any w3 _ b (HX0.out.stay0 HS3.out))
    clear hL1 hv1 hs3
    have hde := dec_each b
    have hpz := fun h => patch_zero (a := a) (b := b) h
    have hpb := fun h => patch_bad (a := a) (b := b) h
    have hpl := patch_len a b
    obtain ⟨dl, hdl⟩ : ∃ dl, dl = (decN b).1 := ⟨_, rfl⟩
    obtain ⟨dc, hdc⟩ : ∃ dc, dc = (decN b).2 := ⟨_, rfl⟩
    rw [← hdl] at HL1 HD hde hpz
    rw [← hdc] at HD hpz hpb ⊢
    obtain ⟨e9, he9⟩ : ∃ e9, e9 = errV dc := ⟨_, rfl⟩
    rw [← he9]
    have HDE := Lib.hid hde
    have HPZ := Lib.hid hpz
    have HPB := Lib.hid hpb
    have HE9 := Lib.hid he9
    obtain ⟨pb, hpb'⟩ : ∃ pb, pb = resB (patchR a b) := ⟨_, rfl⟩
    obtain ⟨pc, hpc'⟩ : ∃ pc, pc = resE (patchR a b) := ⟨_, rfl⟩
    obtain ⟨pe, hpe'⟩ : ∃ pe, pe = errV pc := ⟨_, rfl⟩
    rw [← hpb'] at hpl
    have HPB1 := Lib.hid hpb'
    have HPC1 := Lib.hid hpc'
    have HPE1 := Lib.hid hpe'
    have HPL := Lib.hid hpl
    clear hde hpz hpb he9 hdl hdc hpb' hpc' hpe' hpl
    go_wp2_with fail
    refine HD.out.mono ?_
    rintro e w4 ⟨⟨x2, rfl, L2, hL2, hv2⟩, hs4⟩
    obtain ⟨a2, c2, rfl⟩ := hv2.form
    have HL2 := Lib.hid hL2
    have HSw := Lib.hid (HS0.out.trans (HS3.out.trans hs4))
    have H0 := Lib.hid (H0.out.stay0 (HS3.out.trans hs4))
    have HV := Lib.hid (HV0.out.stay0 (HS3.out.trans hs4))
    have HX := Lib.hid (HX0.out.stay0 (HS3.out.trans hs4))
    have HM := Lib.hid (HM2.out.stay0 (HS23.out.trans hs4))
    have HV1 := Lib.hid (HV1.out.stay0 hs4)
    have HV2 := Lib.hid hv2
    have HG := Lib.hid (ErrCell.stay0 HG0.out HSw.out)
    clear hL2 hv2 hs4 HD HS3 HS23 HM2 HV0 HX0 HS2 HNIL HS0 HG0 HI HZ0 HZ1 HZ2 W1
    go_wp2_with fail
    refine Code.wp_mono (Q := fun e a' W => ∃ g x40, e = .normal ∧ a' = { tmps := List.toArray (.agg (cellsB a).toArray :: .slice a0 L.length c0 :: .slice xa b.length xc :: .pointer (some ⟨w.heap.size, 0, none⟩) :: undef :: undef :: .bool false :: .slice a7 b.length c7 :: .slice a1 L1.length c1 :: e9 :: .slice a2 L2.length c2 :: .int .i64 (dc : Int) :: .pointer (some ⟨g, 0, none⟩) :: ev :: undef :: undef :: undef :: undef :: undef :: undef :: .slice a0 L.length c0 :: .int .i64 (L.length : Int) :: .bool false :: undef :: .slice none 0 0 :: .slice xa b.length xc :: .slice a7 b.length c7 :: .tuple #[.slice a1 L1.length c1, e9] :: .slice a7 b.length c7 :: .tuple #[.slice a1 L1.length c1, e9] :: .slice a1 L1.length c1 :: e9 :: .tuple #[.slice a2 L2.length c2, .int .i64 (dc : Int)] :: .slice xa b.length xc :: .tuple #[.slice a2 L2.length c2, .int .i64 (dc : Int)] :: .slice a2 L2.length c2 :: .int .i64 (dc : Int) :: .tuple #[arrV rb, ev] :: arrV a :: .slice a0 L.length c0 :: x40 :: .tuple #[arrV rb, ev] :: arrV rb :: ev :: undef :: undef :: undef :: undef :: undef :: undef :: undef :: undef :: undef :: undef :: undef :: undef :: undef :: undef :: undef :: undef :: undef :: undef :: undef :: undef :: undef :: undef :: undef :: undef :: undef :: undef :: undef :: undef :: undef :: undef :: undef :: undef :: undef :: undef :: undef :: undef :: undef :: undef :: undef :: undef :: undef :: undef :: undef :: undef :: undef :: undef :: undef :: undef :: undef :: undef :: undef :: undef :: undef :: undef :: undef :: undef :: undef :: undef :: undef :: undef :: undef :: undef :: undef :: undef :: undef :: undef :: undef :: undef :: undef :: undef :: undef :: undef :: undef :: []), defers := [] } ∧ BAt W g 23 rb ∧ Stay (fun _ => False) w4 W) ?next ?region
    case region =>
      have K0 := H0
      refine wp_region_held (S := Stay (fun _ => False) w4) (by kernel_rfl) ?_
      change wpAnyH _ _ _ _ _ _ _ _ (World.drew _)
      have hst : Stay (fun _ => False) w4 w4.drew := Stay.drew
      refine wpAnyH_takeL (i := 0) #[true, false, false, false, false, false, false, false, false, false] rfl (by kernel_rfl) (by kernel_rfl) (by kernel_rfl) (fun _ _ _ h => by obtain ⟨_, _, h, _⟩ := h; cases h) (by kernel_rfl) hst (yieldsIf_load rfl 23 (.tmp 3) rfl ⟨w.heap.size, 0, none⟩ rfl _ (fun W hW => arr_64.run_load HA.out (K0.out.stay0 hW))) ?_
      conv => arg 8; simp [Act.put]
      refine wpAnyH_takeL (i := 1) (v := .slice a0 L.length c0) #[true, true, false, false, false, false, false, false, false, false] rfl (by kernel_rfl) (by kernel_rfl) (by kernel_rfl) (fun _ _ _ h => by obtain ⟨_, _, h, _⟩ := h; cases h) (by kernel_rfl) hst (Or.inl ⟨by rfl, fun W hW => ?_⟩) ?_
      · go_simp
      conv => arg 8; simp [Act.put]
      refine wpAnyH_ready (rs := [2, 7]) (by kernel_rfl) (by simp) ?_
      refine AllReadyH.cons (o := _) rfl (fun K hK => ?_) ?_
      · go_simp
        go_wp2_with (go_at_call 9; refine (give_any w4.drew _ L (HV.out.stay0 hst) (by omega) HMX.out).mono ?_; rintro e v1 ⟨⟨x5, rfl, L5, hL5, hv5⟩, s⟩; obtain ⟨a5, c5, rfl⟩ := hv5.form; have HL5 := Lib.hid hL5; have HV5 := Lib.hid hv5; clear hL5 hv5)
        replace hst := hst.trans s
        clear s
        refine Shut.out hK _ _ hst (fun _ => ?_)
        clear hK
        refine wpAnyH_listedL #[true, true, true, false, false, false, false, false, false, false] (by kernel_rfl) ?_
        conv => arg 8; simp [Act.put]
        refine wpAnyH_ready (rs := [3, 7]) (by kernel_rfl) (by simp) ?_
        refine AllReadyH.cons (o := _) rfl (fun K hK => ?_) ?_
        · go_simp
          go_wp2_with (go_at_call 8; refine (apply_any v1 a _ L5 HA.out HV5.out).mono ?_; rintro e v2 ⟨rfl, s⟩; rw [HL5.out, ← HRB.out, ← HEC.out, ← HEV.out])
          replace HV5 := Lib.hid (HV5.out.stay0 s)
          replace hst := hst.trans s
          clear s
          refine Shut.out hK _ _ hst (fun _ => ?_)
          clear hK
          refine wpAnyH_listedL #[true, true, true, true, false, false, false, false, false, false] (by kernel_rfl) ?_
          conv => arg 8; simp [Act.put]
          refine wpAnyH_takeL (i := 4) (v := .tuple #[arrV rb, ev]) #[true, true, true, true, true, false, false, false, false, false] rfl (by kernel_rfl) (by kernel_rfl) (by kernel_rfl) (fun _ _ _ h => by obtain ⟨_, _, h, _⟩ := h; cases h) (by kernel_rfl) hst (Or.inl ⟨by rfl, fun W hW => ?_⟩) ?_
          · go_simp
          conv => arg 8; simp [Act.put]
          refine wpAnyH_takeL (i := 5) (v := arrV rb) #[true, true, true, true, true, true, false, false, false, false] rfl (by kernel_rfl) (by kernel_rfl) (by kernel_rfl) (fun _ _ _ h => by obtain ⟨_, _, h, _⟩ := h; cases h) (by kernel_rfl) hst (Or.inl ⟨by rfl, fun W hW => ?_⟩) ?_
          · go_simp
          conv => arg 8; simp [Act.put]
          refine wpAnyH_takeL (i := 6) (v := ev) #[true, true, true, true, true, true, true, false, false, false] rfl (by kernel_rfl) (by kernel_rfl) (by kernel_rfl) (fun _ _ _ h => by obtain ⟨_, _, h, _⟩ := h; cases h) (by kernel_rfl) hst (Or.inl ⟨by rfl, fun W hW => ?_⟩) ?_
          · go_simp
          conv => arg 8; simp [Act.put]
          refine wpAnyH_ready (rs := [7]) (by kernel_rfl) (by simp) ?_
          refine AllReadyH.cons (o := _) rfl (fun K hK => ?_) ?_
          · refine step_alloc_z rfl 23 rfl _ (arr_64.zero _) ?_
            have hg := BAt.new v2 23 z64
            have hsz := hst.size
            have s : Stay (fun _ => False) v2 (v2.alloc (.cells (cellsB z64).toArray 23)) := Stay.alloc _ _
            change K _ (v2.alloc (.cells (cellsB z64).toArray 23))
            generalize v2.alloc (.cells (cellsB z64).toArray 23) = v3 at hg s ⊢
            obtain ⟨g, hge⟩ : ∃ g, g = v2.heap.size := ⟨_, rfl⟩
            rw [← hge] at hg ⊢
            have hbg : w4.heap.size ≤ g := by omega
            clear hge hsz
            replace HV5 := Lib.hid (HV5.out.stay0 s)
            replace hst := hst.trans s
            clear s
            refine Shut.out hK _ _ hst (fun _ => ?_)
            clear hK
            refine wpAnyH_listedL #[true, true, true, true, true, true, true, true, false, false] (by kernel_rfl) ?_
            conv => arg 8; simp [Act.put]
            refine wpAnyH_one #[true, true, true, true, true, true, true, true, true, false] (i := 8) rfl (by kernel_rfl) (by kernel_rfl) (fun K hK => ?_)
            refine step_store_blk rfl (.tmp 12) (.tmp 42) rfl g rfl z64 rb len_z64 HRL.out rfl hg ?_
            intro wz hz s
            replace hst : Stay (fun _ => False) w4 wz := stay_seal (X := fun k => k = g) ((hst.mono (fun _ x => x.elim)).trans s) (fun k e => by have e' : k = g := e; omega)
            clear s hg
            have hg := hz
            clear hz
            refine hK _ _ hst ?_
            clear hK
            conv => arg 8; simp [Act.put]
            refine wpAnyH_takeL (i := 9) (v := ev) #[true, true, true, true, true, true, true, true, true, true] rfl (by kernel_rfl) (by kernel_rfl) (by kernel_rfl) (fun _ _ _ h => by obtain ⟨_, _, h, _⟩ := h; cases h) (by kernel_rfl) hst (Or.inl ⟨by rfl, fun W hW => ?_⟩) ?_
            · go_simp
            conv => arg 8; simp [Act.put]
            refine wpAnyH_done (by kernel_rfl) ?_ _
            exact ⟨g, _, rfl, rfl, hg, hst⟩
          exact AllReadyH.nil
        refine AllReadyH.cons (o := _) rfl (fun K hK => ?_) ?_
        · refine step_alloc_z rfl 23 rfl _ (arr_64.zero _) ?_
          have hg := BAt.new v1 23 z64
          have hsz := hst.size
          have s : Stay (fun _ => False) v1 (v1.alloc (.cells (cellsB z64).toArray 23)) := Stay.alloc _ _
          change K _ (v1.alloc (.cells (cellsB z64).toArray 23))
          generalize v1.alloc (.cells (cellsB z64).toArray 23) = v2 at hg s ⊢
          obtain ⟨g, hge⟩ : ∃ g, g = v1.heap.size := ⟨_, rfl⟩
          rw [← hge] at hg ⊢
          have hbg : w4.heap.size ≤ g := by omega
          clear hge hsz
          replace HV5 := Lib.hid (HV5.out.stay0 s)
          replace hst := hst.trans s
          clear s
          refine Shut.out hK _ _ hst (fun _ => ?_)
          clear hK
          refine wpAnyH_listedL #[true, true, true, false, false, false, false, true, false, false] (by kernel_rfl) ?_
          conv => arg 8; simp [Act.put]
          refine wpAnyH_ready (rs := [3]) (by kernel_rfl) (by simp) ?_
          refine AllReadyH.cons (o := _) rfl (fun K hK => ?_) ?_
          · go_simp
            go_wp2_with (go_at_call 8; refine (apply_any v2 a _ L5 HA.out HV5.out).mono ?_; rintro e v3 ⟨rfl, s⟩; rw [HL5.out, ← HRB.out, ← HEC.out, ← HEV.out])
            replace hg := hg.stay0 s
            replace HV5 := Lib.hid (HV5.out.stay0 s)
            replace hst := hst.trans s
            clear s
            refine Shut.out hK _ _ hst (fun _ => ?_)
            clear hK
            refine wpAnyH_listedL #[true, true, true, true, false, false, false, true, false, false] (by kernel_rfl) ?_
            conv => arg 8; simp [Act.put]
            refine wpAnyH_takeL (i := 4) (v := .tuple #[arrV rb, ev]) #[true, true, true, true, true, false, false, true, false, false] rfl (by kernel_rfl) (by kernel_rfl) (by kernel_rfl) (fun _ _ _ h => by obtain ⟨_, _, h, _⟩ := h; cases h) (by kernel_rfl) hst (Or.inl ⟨by rfl, fun W hW => ?_⟩) ?_
            · go_simp
            conv => arg 8; simp [Act.put]
            refine wpAnyH_takeL (i := 5) (v := arrV rb) #[true, true, true, true, true, true, false, true, false, false] rfl (by kernel_rfl) (by kernel_rfl) (by kernel_rfl) (fun _ _ _ h => by obtain ⟨_, _, h, _⟩ := h; cases h) (by kernel_rfl) hst (Or.inl ⟨by rfl, fun W hW => ?_⟩) ?_
            · go_simp
            conv => arg 8; simp [Act.put]
            refine wpAnyH_takeL (i := 6) (v := ev) #[true, true, true, true, true, true, true, true, false, false] rfl (by kernel_rfl) (by kernel_rfl) (by kernel_rfl) (fun _ _ _ h => by obtain ⟨_, _, h, _⟩ := h; cases h) (by kernel_rfl) hst (Or.inl ⟨by rfl, fun W hW => ?_⟩) ?_
            · go_simp
            conv => arg 8; simp [Act.put]
            refine wpAnyH_one #[true, true, true, true, true, true, true, true, true, false] (i := 8) rfl (by kernel_rfl) (by kernel_rfl) (fun K hK => ?_)
            refine step_store_blk rfl (.tmp 12) (.tmp 42) rfl g rfl z64 rb len_z64 HRL.out rfl hg ?_
            intro wz hz s
            replace hst : Stay (fun _ => False) w4 wz := stay_seal (X := fun k => k = g) ((hst.mono (fun _ x => x.elim)).trans s) (fun k e => by have e' : k = g := e; omega)
            clear s hg
            have hg := hz
            clear hz
            refine hK _ _ hst ?_
            clear hK
            conv => arg 8; simp [Act.put]
            refine wpAnyH_takeL (i := 9) (v := ev) #[true, true, true, true, true, true, true, true, true, true] rfl (by kernel_rfl) (by kernel_rfl) (by kernel_rfl) (fun _ _ _ h => by obtain ⟨_, _, h, _⟩ := h; cases h) (by kernel_rfl) hst (Or.inl ⟨by rfl, fun W hW => ?_⟩) ?_
            · go_simp
            conv => arg 8; simp [Act.put]
            refine wpAnyH_done (by kernel_rfl) ?_ _
            exact ⟨g, _, rfl, rfl, hg, hst⟩
          exact AllReadyH.nil
        exact AllReadyH.nil
      refine AllReadyH.cons (o := _) rfl (fun K hK => ?_) ?_
      · refine step_alloc_z rfl 23 rfl _ (arr_64.zero _) ?_
        have hg := BAt.new w4.drew 23 z64
        have hsz := hst.size
        have s : Stay (fun _ => False) w4.drew (w4.drew.alloc (.cells (cellsB z64).toArray 23)) := Stay.alloc _ _
        change K _ (w4.drew.alloc (.cells (cellsB z64).toArray 23))
        generalize w4.drew.alloc (.cells (cellsB z64).toArray 23) = v1 at hg s ⊢
        obtain ⟨g, hge⟩ : ∃ g, g = w4.drew.heap.size := ⟨_, rfl⟩
        rw [← hge] at hg ⊢
        have hbg : w4.heap.size ≤ g := by omega
        clear hge hsz
        replace hst := hst.trans s
        clear s
        refine Shut.out hK _ _ hst (fun _ => ?_)
        clear hK
        refine wpAnyH_listedL #[true, true, false, false, false, false, false, true, false, false] (by kernel_rfl) ?_
        conv => arg 8; simp [Act.put]
        refine wpAnyH_ready (rs := [2]) (by kernel_rfl) (by simp) ?_
        refine AllReadyH.cons (o := _) rfl (fun K hK => ?_) ?_
        · go_simp
          go_wp2_with (go_at_call 9; refine (give_any v1 _ L (HV.out.stay0 hst) (by omega) HMX.out).mono ?_; rintro e v2 ⟨⟨x5, rfl, L5, hL5, hv5⟩, s⟩; obtain ⟨a5, c5, rfl⟩ := hv5.form; have HL5 := Lib.hid hL5; have HV5 := Lib.hid hv5; clear hL5 hv5)
          replace hg := hg.stay0 s
          replace hst := hst.trans s
          clear s
          refine Shut.out hK _ _ hst (fun _ => ?_)
          clear hK
          refine wpAnyH_listedL #[true, true, true, false, false, false, false, true, false, false] (by kernel_rfl) ?_
          conv => arg 8; simp [Act.put]
          refine wpAnyH_ready (rs := [3]) (by kernel_rfl) (by simp) ?_
          refine AllReadyH.cons (o := _) rfl (fun K hK => ?_) ?_
          · go_simp
            go_wp2_with (go_at_call 8; refine (apply_any v2 a _ L5 HA.out HV5.out).mono ?_; rintro e v3 ⟨rfl, s⟩; rw [HL5.out, ← HRB.out, ← HEC.out, ← HEV.out])
            replace hg := hg.stay0 s
            replace HV5 := Lib.hid (HV5.out.stay0 s)
            replace hst := hst.trans s
            clear s
            refine Shut.out hK _ _ hst (fun _ => ?_)
            clear hK
            refine wpAnyH_listedL #[true, true, true, true, false, false, false, true, false, false] (by kernel_rfl) ?_
            conv => arg 8; simp [Act.put]
            refine wpAnyH_takeL (i := 4) (v := .tuple #[arrV rb, ev]) #[true, true, true, true, true, false, false, true, false, false] rfl (by kernel_rfl) (by kernel_rfl) (by kernel_rfl) (fun _ _ _ h => by obtain ⟨_, _, h, _⟩ := h; cases h) (by kernel_rfl) hst (Or.inl ⟨by rfl, fun W hW => ?_⟩) ?_
            · go_simp
            conv => arg 8; simp [Act.put]
            refine wpAnyH_takeL (i := 5) (v := arrV rb) #[true, true, true, true, true, true, false, true, false, false] rfl (by kernel_rfl) (by kernel_rfl) (by kernel_rfl) (fun _ _ _ h => by obtain ⟨_, _, h, _⟩ := h; cases h) (by kernel_rfl) hst (Or.inl ⟨by rfl, fun W hW => ?_⟩) ?_
            · go_simp
            conv => arg 8; simp [Act.put]
            refine wpAnyH_takeL (i := 6) (v := ev) #[true, true, true, true, true, true, true, true, false, false] rfl (by kernel_rfl) (by kernel_rfl) (by kernel_rfl) (fun _ _ _ h => by obtain ⟨_, _, h, _⟩ := h; cases h) (by kernel_rfl) hst (Or.inl ⟨by rfl, fun W hW => ?_⟩) ?_
            · go_simp
            conv => arg 8; simp [Act.put]
            refine wpAnyH_one #[true, true, true, true, true, true, true, true, true, false] (i := 8) rfl (by kernel_rfl) (by kernel_rfl) (fun K hK => ?_)
            refine step_store_blk rfl (.tmp 12) (.tmp 42) rfl g rfl z64 rb len_z64 HRL.out rfl hg ?_
            intro wz hz s
            replace hst : Stay (fun _ => False) w4 wz := stay_seal (X := fun k => k = g) ((hst.mono (fun _ x => x.elim)).trans s) (fun k e => by have e' : k = g := e; omega)
            clear s hg
            have hg := hz
            clear hz
            refine hK _ _ hst ?_
            clear hK
            conv => arg 8; simp [Act.put]
            refine wpAnyH_takeL (i := 9) (v := ev) #[true, true, true, true, true, true, true, true, true, true] rfl (by kernel_rfl) (by kernel_rfl) (by kernel_rfl) (fun _ _ _ h => by obtain ⟨_, _, h, _⟩ := h; cases h) (by kernel_rfl) hst (Or.inl ⟨by rfl, fun W hW => ?_⟩) ?_
            · go_simp
            conv => arg 8; simp [Act.put]
            refine wpAnyH_done (by kernel_rfl) ?_ _
            exact ⟨g, _, rfl, rfl, hg, hst⟩
          exact AllReadyH.nil
        exact AllReadyH.nil
      exact AllReadyH.nil
    case next =>
      rintro e a' w5 ⟨g, x40, rfl, rfl, hgb, hst⟩
      have HU := Lib.hid hgb
      have HW := Lib.hid hst
      clear hgb hst
      go_wp2_with (refine arr_64.load rfl (.tmp 3) rfl w.heap.size rfl a HA.out (H0.out.stay0 HW.out) ?_)
      refine (rapply_any w5 a _ L HA.out (HV.out.stay0 HW.out) HMX.out).mono ?_
      rintro e u1 ⟨rfl, hs⟩
      rw [← HRB.out, ← HEC.out]
      have HC := Lib.hid hs
      clear hs
      have hq := BAt.new u1 23 z64
      have hs : Stay (fun _ => False) u1 (u1.alloc (.cells (cellsB z64).toArray 23)) := Stay.alloc _ _
      obtain ⟨d1, hd⟩ : ∃ d, u1.alloc (.cells (cellsB z64).toArray 23) = d := ⟨_, rfl⟩
      rw [hd] at hq hs
      have HQ := Lib.hid hq
      have HSD := Lib.hid hs
      have WD := Lib.hid hd
      clear hq hs hd
      go_wp2_with (first
        | (with_reducible refine arr_64.alloc rfl rfl ?_; rw [show List.replicate 64 0 = z64 from rfl, WD.out])
        | (refine arr_64.store rfl (.tmp 14) (.tmp 48) rfl u1.heap.size rfl z64 rb rfl len_z64 HRL.out HQ.out ?_
           intro s1 hz s
           have HCS := Lib.hid (stay_seal ((HSD.out.mono (Y := fun j => j = u1.heap.size) (fun _ x => x.elim)).trans s) (fun j e => by have e' : j = u1.heap.size := e; omega))
           have HB14 := Lib.hid hz
           have HT := Lib.hid (HC.out.trans HCS.out)
           replace HW := Lib.hid (HW.out.trans HT.out)
           have HU := Lib.hid (HU.out.stay0 HT.out)
           clear hz s HSD HQ WD HC HCS HT)
        | (refine arr_64.load rfl (.tmp 3) rfl w.heap.size rfl a HA.out (H0.out.stay0 HW.out) ?_))
      refine (patch_any s1 a _ b HA.out (HM.out.stay0 HW.out) HL.out).mono ?_
      rintro e u2 ⟨rfl, hs⟩
      rw [← HPB1.out, ← HPC1.out, ← HPE1.out]
      have HC := Lib.hid hs
      clear hs
      have hq := BAt.new u2 23 z64
      have hs : Stay (fun _ => False) u2 (u2.alloc (.cells (cellsB z64).toArray 23)) := Stay.alloc _ _
      obtain ⟨d2, hd⟩ : ∃ d, u2.alloc (.cells (cellsB z64).toArray 23) = d := ⟨_, rfl⟩
      rw [hd] at hq hs
      have HQ := Lib.hid hq
      have HSD := Lib.hid hs
      have WD := Lib.hid hd
      clear hq hs hd
      go_wp2_with (first
        | (with_reducible refine arr_64.alloc rfl rfl ?_; rw [show List.replicate 64 0 = z64 from rfl, WD.out])
        | (refine arr_64.store rfl (.tmp 16) (.tmp 54) rfl u2.heap.size rfl z64 pb rfl len_z64 HPL.out HQ.out ?_
           intro s2 hz s
           have HCS := Lib.hid (stay_seal ((HSD.out.mono (Y := fun j => j = u2.heap.size) (fun _ x => x.elim)).trans s) (fun j e => by have e' : j = u2.heap.size := e; omega))
           have HB16 := Lib.hid hz
           have HT := Lib.hid (HC.out.trans HCS.out)
           replace HW := Lib.hid (HW.out.trans HT.out)
           have HU := Lib.hid (HU.out.stay0 HT.out)
           have HB14 := Lib.hid (HB14.out.stay0 HT.out)
           clear hz s HSD HQ WD HC HCS HT)
        | (refine arr_64.load rfl (.tmp 3) rfl w.heap.size rfl a HA.out (H0.out.stay0 HW.out) ?_))
      obtain ⟨qb, hqb⟩ : ∃ qb, qb = resB (applyN a dl []) := ⟨_, rfl⟩
      obtain ⟨qc, hqc⟩ : ∃ qc, qc = resE (applyN a dl []) := ⟨_, rfl⟩
      have hql : qb.length = 64 := by rw [hqb]; exact resB_len a _
      have HQB := Lib.hid hqb
      have HQC := Lib.hid hqc
      have HQL := Lib.hid hql
      clear hqb hqc hql
      refine (rapply_any s2 a _ L2 HA.out (HV2.out.stay0 HW.out) (each_of HL2.out HDE.out)).mono ?_
      rintro e u3 ⟨rfl, hs⟩
      rw [HL2.out, ← HQB.out, ← HQC.out]
      have HC := Lib.hid hs
      clear hs
      have hq := BAt.new u3 23 z64
      have hs : Stay (fun _ => False) u3 (u3.alloc (.cells (cellsB z64).toArray 23)) := Stay.alloc _ _
      obtain ⟨d3, hd⟩ : ∃ d, u3.alloc (.cells (cellsB z64).toArray 23) = d := ⟨_, rfl⟩
      rw [hd] at hq hs
      have HQ := Lib.hid hq
      have HSD := Lib.hid hs
      have WD := Lib.hid hd
      clear hq hs hd
      by_cases hd : dc = 0
      · subst hd
        have hd2 := HPZ.out rfl
        have h1 : qb = pb := by rw [HQB.out, HPB1.out, hd2]
        have h2 : qc = pc := by rw [HQC.out, HPC1.out, hd2]
        subst h1 h2
        clear hd2
        have HE9 := Lib.hid (show e9 = if (0 : Nat) = 0 then .nilIface else .iface 55 (.int .i64 ((0 : Nat) : Int)) from HE9.out)
        go_wp2_with (first
          | (with_reducible refine arr_64.alloc rfl rfl ?_; rw [show List.replicate 64 0 = z64 from rfl, WD.out])
          | (refine arr_64.store rfl (.tmp 18) (.tmp 60) rfl u3.heap.size rfl z64 qb rfl len_z64 HQL.out HQ.out ?_
             intro s3 hz s
             have HCS := Lib.hid (stay_seal ((HSD.out.mono (Y := fun j => j = u3.heap.size) (fun _ x => x.elim)).trans s) (fun j e => by have e' : j = u3.heap.size := e; omega))
             have HB18 := Lib.hid hz
             have HT := Lib.hid (HC.out.trans HCS.out)
             replace HW := Lib.hid (HW.out.trans HT.out)
             have HU := Lib.hid (HU.out.stay0 HT.out)
             have HB14 := Lib.hid (HB14.out.stay0 HT.out)
             have HB16 := Lib.hid (HB16.out.stay0 HT.out)
             have HV := Lib.hid (HV.out.stay0 HW.out)
             have HV1 := Lib.hid (HV1.out.stay0 HW.out)
             have HV2 := Lib.hid (HV2.out.stay0 HW.out)
             have HM := Lib.hid (HM.out.stay0 HW.out)
             have HX := Lib.hid (HX.out.stay0 HW.out)
             have HG := Lib.hid (ErrCell.stay0 HG.out HW.out)
             obtain ⟨wz, rfl⟩ : ∃ wz, wz = s3 := ⟨_, rfl⟩
             clear hz s HSD HQ WD HC HCS HT))
        refine wp_region_held (S := Stay (fun _ => False) wz.drew) (by kernel_rfl) ?_
        change wpAnyH _ _ _ _ _ _ _ _ (World.drew _)
        have hst : Stay (fun _ => False) wz wz.drew := Stay.drew
        refine wpAnyH_takeL (i := 0) (v := .slice a0 L.length c0) #[true, false, false, false, false, false, false, false, false, false, false, false, false, false, false, false, false, false, false, false, false, false, false, false, false, false, false, false, false, false, false, false, false, false, false, false, false, false, false, false, false, false, false, false, false, false, false, false, false, false, false, false] rfl (by kernel_rfl) (by kernel_rfl) (by kernel_rfl) (fun _ _ _ h => h) (by kernel_rfl) (Stay.refl _ _) (Or.inl ⟨by rfl, fun W hW => ?_⟩) ?_
        · go_simp
        conv => arg 8; simp [Act.put]
        refine wpAnyH_takeL (i := 4) (v := .slice a0 L.length c0) #[true, false, false, false, true, false, false, false, false, false, false, false, false, false, false, false, false, false, false, false, false, false, false, false, false, false, false, false, false, false, false, false, false, false, false, false, false, false, false, false, false, false, false, false, false, false, false, false, false, false, false, false] rfl (by kernel_rfl) (by kernel_rfl) (by kernel_rfl) (fun _ _ _ h => h) (by kernel_rfl) (Stay.refl _ _) (Or.inl ⟨by rfl, fun W hW => ?_⟩) ?_
        · go_simp
        conv => arg 8; simp [Act.put]
        refine wpAnyH_one #[true, true, false, false, true, false, false, false, false, false, false, false, false, false, false, false, false, false, false, false, false, false, false, false, false, false, false, false, false, false, false, false, false, false, false, false, false, false, false, false, false, false, false, false, false, false, false, false, false, false, false, false] (i := 1) rfl (by kernel_rfl) (by kernel_rfl) (fun K hK => ?_)
        go_simp
        go_wp2_with (go_at_call 9; refine (give_any wz.drew _ L (HV.out.stay0 hst) (by omega) HMX.out).mono ?_; rintro e z1 ⟨⟨x4, rfl, L4, hL4, hv4⟩, s⟩; obtain ⟨a4, c4, rfl⟩ := hv4.form; have HL4 := Lib.hid hL4; have HV4 := Lib.hid hv4; clear hL4 hv4)
        replace hst := hst.trans s
        refine hK _ _ s ?_
        clear hK
        conv => arg 8; simp [Act.put]
        refine wpAnyH_narrow (S' := Stay (fun _ => False) z1) (fun _ h => s.trans h) _ _ _ _ ?_
        clear s
        refine wpAnyH_one #[true, true, true, false, true, false, false, false, false, false, false, false, false, false, false, false, false, false, false, false, false, false, false, false, false, false, false, false, false, false, false, false, false, false, false, false, false, false, false, false, false, false, false, false, false, false, false, false, false, false, false, false] (i := 2) rfl (by kernel_rfl) (by kernel_rfl) (fun K hK => ?_)
        go_simp
        go_wp2_with (go_at_call 12; refine (encode_any z1 _ L4 HV4.out (by rw [HL4.out]; exact HSZ.out) (by have := congrArg List.length HL4.out; simp at this; omega)).mono ?_; rintro e z2 ⟨x5, rfl, how5, s⟩; rw [HL4.out, ← HEN.out] at how5; obtain ⟨a5, c5, rfl⟩ := how5.form; have HO5 := Lib.hid how5.slc; clear how5)
        replace hst := hst.trans s
        refine hK _ _ s ?_
        clear hK
        conv => arg 8; simp [Act.put]
        refine wpAnyH_narrow (S' := Stay (fun _ => False) z2) (fun _ h => s.trans h) _ _ _ _ ?_
        clear s
        refine wpAnyH_takeL (i := 3) (v := .string ⟨EN.toArray⟩) #[true, true, true, true, true, false, false, false, false, false, false, false, false, false, false, false, false, false, false, false, false, false, false, false, false, false, false, false, false, false, false, false, false, false, false, false, false, false, false, false, false, false, false, false, false, false, false, false, false, false, false, false] rfl (by kernel_rfl) (by kernel_rfl) (by kernel_rfl) (fun _ _ _ h => h) (by kernel_rfl) (Stay.refl _ _) (Or.inl ⟨by rfl, fun W hW => ?_⟩) ?_
        · have cv := conv_slc (HO5.out.stay0 hW)
          unfold strV at cv
          go_simp
        conv => arg 8; simp [Act.put]
        refine wpAnyH_one #[true, true, true, true, true, true, false, false, false, false, false, false, false, false, false, false, false, false, false, false, false, false, false, false, false, false, false, false, false, false, false, false, false, false, false, false, false, false, false, false, false, false, false, false, false, false, false, false, false, false, false, false] (i := 5) rfl (by kernel_rfl) (by kernel_rfl) (fun K hK => ?_)
        go_simp
        go_wp2_with (go_at_call 13; refine (rencode_any z2 _ L (HV.out.stay0 hst) HSZ.out (by omega)).mono ?_; rintro e z3 ⟨x6, rfl, how6, s⟩; rw [← HEN.out] at how6; obtain ⟨a6, c6, rfl⟩ := how6.form; have HO6 := Lib.hid how6.slc; clear how6)
        replace hst := hst.trans s
        refine hK _ _ s ?_
        clear hK
        conv => arg 8; simp [Act.put]
        refine wpAnyH_narrow (S' := Stay (fun _ => False) z3) (fun _ h => s.trans h) _ _ _ _ ?_
        clear s
        refine wpAnyH_takeL (i := 6) (v := .string ⟨EN.toArray⟩) #[true, true, true, true, true, true, true, false, false, false, false, false, false, false, false, false, false, false, false, false, false, false, false, false, false, false, false, false, false, false, false, false, false, false, false, false, false, false, false, false, false, false, false, false, false, false, false, false, false, false, false, false] rfl (by kernel_rfl) (by kernel_rfl) (by kernel_rfl) (fun _ _ _ h => h) (by kernel_rfl) (Stay.refl _ _) (Or.inl ⟨by rfl, fun W hW => ?_⟩) ?_
        · have cv := conv_slc (HO6.out.stay0 hW)
          unfold strV at cv
          go_simp
        conv => arg 8; simp [Act.put]
        refine wpAnyH_takeL (i := 7) (v := .bool true) #[true, true, true, true, true, true, true, true, false, false, false, false, false, false, false, false, false, false, false, false, false, false, false, false, false, false, false, false, false, false, false, false, false, false, false, false, false, false, false, false, false, false, false, false, false, false, false, false, false, false, false, false] rfl (by kernel_rfl) (by kernel_rfl) (by kernel_rfl) (fun _ _ _ h => h) (by kernel_rfl) (Stay.refl _ _) (Or.inl ⟨by rfl, fun W hW => ?_⟩) ?_
        · go_simp
        conv => arg 8; simp [Act.put]
        refine wpAnyH_takeL (i := 8) (v := .bool true) #[true, true, true, true, true, true, true, true, true, false, false, false, false, false, false, false, false, false, false, false, false, false, false, false, false, false, false, false, false, false, false, false, false, false, false, false, false, false, false, false, false, false, false, false, false, false, false, false, false, false, false, false] rfl (by kernel_rfl) (by kernel_rfl) (by kernel_rfl) (fun _ _ _ h => h) (by kernel_rfl) (Stay.refl _ _) (Or.inl ⟨by rfl, fun W hW => ?_⟩) ?_
        · go_simp
        conv => arg 8; simp [Act.put]
        refine wpAnyH_takeL (i := 9) (v := .slice a1 L1.length c1) #[true, true, true, true, true, true, true, true, true, true, false, false, false, false, false, false, false, false, false, false, false, false, false, false, false, false, false, false, false, false, false, false, false, false, false, false, false, false, false, false, false, false, false, false, false, false, false, false, false, false, false, false] rfl (by kernel_rfl) (by kernel_rfl) (by kernel_rfl) (fun _ _ _ h => h) (by kernel_rfl) (Stay.refl _ _) (Or.inl ⟨by rfl, fun W hW => ?_⟩) ?_
        · go_simp
        conv => arg 8; simp [Act.put]
        refine wpAnyH_takeL (i := 10) (v := .slice a2 L2.length c2) #[true, true, true, true, true, true, true, true, true, true, true, false, false, false, false, false, false, false, false, false, false, false, false, false, false, false, false, false, false, false, false, false, false, false, false, false, false, false, false, false, false, false, false, false, false, false, false, false, false, false, false, false] rfl (by kernel_rfl) (by kernel_rfl) (by kernel_rfl) (fun _ _ _ h => h) (by kernel_rfl) (Stay.refl _ _) (Or.inl ⟨by rfl, fun W hW => ?_⟩) ?_
        · go_simp
        conv => arg 8; simp [Act.put]
        refine wpAnyH_one #[true, true, true, true, true, true, true, true, true, true, true, true, false, false, false, false, false, false, false, false, false, false, false, false, false, false, false, false, false, false, false, false, false, false, false, false, false, false, false, false, false, false, false, false, false, false, false, false, false, false, false, false] (i := 11) rfl (by kernel_rfl) (by kernel_rfl) (fun K hK => ?_)
        go_simp
        go_wp2_with (go_at_call 14; refine (same_any z3 _ _ L1 L2 (HV1.out.stay0 hst) (HV2.out.stay0 hst) (HL1.out.trans HL2.out.symm)).mono ?_; rintro e z4 ⟨rfl, s⟩)
        replace hst := hst.trans s
        refine hK _ _ s ?_
        clear hK
        conv => arg 8; simp [Act.put]
        refine wpAnyH_narrow (S' := Stay (fun _ => False) z4) (fun _ h => s.trans h) _ _ _ _ ?_
        clear s
        refine wpAnyH_takeL (i := 12) (v := .bool true) #[true, true, true, true, true, true, true, true, true, true, true, true, true, false, false, false, false, false, false, false, false, false, false, false, false, false, false, false, false, false, false, false, false, false, false, false, false, false, false, false, false, false, false, false, false, false, false, false, false, false, false, false] rfl (by kernel_rfl) (by kernel_rfl) (by kernel_rfl) (fun _ _ _ h => h) (by kernel_rfl) (Stay.refl _ _) (Or.inl ⟨by rfl, fun W hW => ?_⟩) ?_
        · go_simp
        conv => arg 8; simp [Act.put]
        refine wpAnyH_takeL (i := 13) (v := .bool true) #[true, true, true, true, true, true, true, true, true, true, true, true, true, true, false, false, false, false, false, false, false, false, false, false, false, false, false, false, false, false, false, false, false, false, false, false, false, false, false, false, false, false, false, false, false, false, false, false, false, false, false, false] rfl (by kernel_rfl) (by kernel_rfl) (by kernel_rfl) (fun _ _ _ h => h) (by kernel_rfl) (Stay.refl _ _) (Or.inl ⟨by rfl, fun W hW => ?_⟩) ?_
        · go_simp
        conv => arg 8; simp [Act.put]
        refine wpAnyH_takeL (i := 14) (v := e9) #[true, true, true, true, true, true, true, true, true, true, true, true, true, true, true, false, false, false, false, false, false, false, false, false, false, false, false, false, false, false, false, false, false, false, false, false, false, false, false, false, false, false, false, false, false, false, false, false, false, false, false, false] rfl (by kernel_rfl) (by kernel_rfl) (by kernel_rfl) (fun _ _ _ h => h) (by kernel_rfl) (Stay.refl _ _) (Or.inl ⟨by rfl, fun W hW => ?_⟩) ?_
        · go_simp
        conv => arg 8; simp [Act.put]
        refine wpAnyH_takeL (i := 16) (v := .int .i64 0) #[true, true, true, true, true, true, true, true, true, true, true, true, true, true, true, false, true, false, false, false, false, false, false, false, false, false, false, false, false, false, false, false, false, false, false, false, false, false, false, false, false, false, false, false, false, false, false, false, false, false, false, false] rfl (by kernel_rfl) (by kernel_rfl) (by kernel_rfl) (fun _ _ _ h => h) (by kernel_rfl) (Stay.refl _ _) (Or.inl ⟨by rfl, fun W hW => ?_⟩) ?_
        · go_simp
        conv => arg 8; simp [Act.put]
        refine wpAnyH_one #[true, true, true, true, true, true, true, true, true, true, true, true, true, true, true, true, true, false, false, false, false, false, false, false, false, false, false, false, false, false, false, false, false, false, false, false, false, false, false, false, false, false, false, false, false, false, false, false, false, false, false, false] (i := 15) rfl (by kernel_rfl) (by kernel_rfl) (fun K hK => ?_)
        go_simp
        go_wp2_with (go_at_call 15; refine (num_any 0 z4 (ErrCell.stay0 HG.out hst) e9 HE9.out).mono ?_; rintro e z5 ⟨rfl, s⟩)
        replace hst := hst.trans s
        refine hK _ _ s ?_
        clear hK
        conv => arg 8; simp [Act.put]
        refine wpAnyH_narrow (S' := Stay (fun _ => False) z5) (fun _ h => s.trans h) _ _ _ _ ?_
        clear s
        refine wpAnyH_takeL (i := 17) (v := .bool true) #[true, true, true, true, true, true, true, true, true, true, true, true, true, true, true, true, true, true, false, false, false, false, false, false, false, false, false, false, false, false, false, false, false, false, false, false, false, false, false, false, false, false, false, false, false, false, false, false, false, false, false, false] rfl (by kernel_rfl) (by kernel_rfl) (by kernel_rfl) (fun _ _ _ h => h) (by kernel_rfl) (Stay.refl _ _) (Or.inl ⟨by rfl, fun W hW => ?_⟩) ?_
        · go_simp
        conv => arg 8; simp [Act.put]
        refine wpAnyH_takeL (i := 18) (v := .bool true) #[true, true, true, true, true, true, true, true, true, true, true, true, true, true, true, true, true, true, true, false, false, false, false, false, false, false, false, false, false, false, false, false, false, false, false, false, false, false, false, false, false, false, false, false, false, false, false, false, false, false, false, false] rfl (by kernel_rfl) (by kernel_rfl) (by kernel_rfl) (fun _ _ _ h => h) (by kernel_rfl) (Stay.refl _ _) (Or.inl ⟨by rfl, fun W hW => ?_⟩) ?_
        · go_simp
        conv => arg 8; simp [Act.put]
        refine wpAnyH_takeL (i := 19) (v := .bool true) #[true, true, true, true, true, true, true, true, true, true, true, true, true, true, true, true, true, true, true, true, false, false, false, false, false, false, false, false, false, false, false, false, false, false, false, false, false, false, false, false, false, false, false, false, false, false, false, false, false, false, false, false] rfl (by kernel_rfl) (by kernel_rfl) (by kernel_rfl) (fun _ _ _ h => h) (by kernel_rfl) (Stay.refl _ _) (Or.inl ⟨by rfl, fun W hW => ?_⟩) ?_
        · go_simp
        conv => arg 8; simp [Act.put]
        refine wpAnyH_takeL (i := 20) #[true, true, true, true, true, true, true, true, true, true, true, true, true, true, true, true, true, true, true, true, true, false, false, false, false, false, false, false, false, false, false, false, false, false, false, false, false, false, false, false, false, false, false, false, false, false, false, false, false, false, false, false] rfl (by kernel_rfl) (by kernel_rfl) (by kernel_rfl) (fun _ _ _ h => h) (by kernel_rfl) (Stay.refl _ _) (yieldsIf_load rfl 23 (.tmp 12) rfl ⟨g, 0, none⟩ rfl _ (fun W hW => arr_64.run_load HRL.out (HU.out.stay0 (hst.trans hW)))) ?_
        conv => arg 8; simp [Act.put]
        refine wpAnyH_takeL (i := 21) #[true, true, true, true, true, true, true, true, true, true, true, true, true, true, true, true, true, true, true, true, true, true, false, false, false, false, false, false, false, false, false, false, false, false, false, false, false, false, false, false, false, false, false, false, false, false, false, false, false, false, false, false] rfl (by kernel_rfl) (by kernel_rfl) (by kernel_rfl) (fun _ _ _ h => h) (by kernel_rfl) (Stay.refl _ _) (yieldsIf_load rfl 23 (.tmp 14) rfl ⟨u1.heap.size, 0, none⟩ rfl _ (fun W hW => arr_64.run_load HRL.out (HB14.out.stay0 (hst.trans hW)))) ?_
        conv => arg 8; simp [Act.put]
        refine wpAnyH_takeL (i := 22) (v := .bool true) #[true, true, true, true, true, true, true, true, true, true, true, true, true, true, true, true, true, true, true, true, true, true, true, false, false, false, false, false, false, false, false, false, false, false, false, false, false, false, false, false, false, false, false, false, false, false, false, false, false, false, false, false] rfl (by kernel_rfl) (by kernel_rfl) (by kernel_rfl) (fun _ _ _ h => h) (by kernel_rfl) (Stay.refl _ _) (Or.inl ⟨by rfl, fun W hW => ?_⟩) ?_
        · have keq := eq_blk W rb rb HRL.out HRL.out
          rw [beq_self_eq_true] at keq
          unfold arrV at keq ⊢
          go_simp
        conv => arg 8; simp [Act.put]
        refine wpAnyH_takeL (i := 23) (v := .bool true) #[true, true, true, true, true, true, true, true, true, true, true, true, true, true, true, true, true, true, true, true, true, true, true, true, false, false, false, false, false, false, false, false, false, false, false, false, false, false, false, false, false, false, false, false, false, false, false, false, false, false, false, false] rfl (by kernel_rfl) (by kernel_rfl) (by kernel_rfl) (fun _ _ _ h => h) (by kernel_rfl) (Stay.refl _ _) (Or.inl ⟨by rfl, fun W hW => ?_⟩) ?_
        · go_simp
        conv => arg 8; simp [Act.put]
        refine wpAnyH_takeL (i := 24) (v := .bool true) #[true, true, true, true, true, true, true, true, true, true, true, true, true, true, true, true, true, true, true, true, true, true, true, true, true, false, false, false, false, false, false, false, false, false, false, false, false, false, false, false, false, false, false, false, false, false, false, false, false, false, false, false] rfl (by kernel_rfl) (by kernel_rfl) (by kernel_rfl) (fun _ _ _ h => h) (by kernel_rfl) (Stay.refl _ _) (Or.inl ⟨by rfl, fun W hW => ?_⟩) ?_
        · go_simp
        conv => arg 8; simp [Act.put]
        refine wpAnyH_takeL (i := 25) (v := ev) #[true, true, true, true, true, true, true, true, true, true, true, true, true, true, true, true, true, true, true, true, true, true, true, true, true, true, false, false, false, false, false, false, false, false, false, false, false, false, false, false, false, false, false, false, false, false, false, false, false, false, false, false] rfl (by kernel_rfl) (by kernel_rfl) (by kernel_rfl) (fun _ _ _ h => h) (by kernel_rfl) (Stay.refl _ _) (Or.inl ⟨by rfl, fun W hW => ?_⟩) ?_
        · go_simp
        conv => arg 8; simp [Act.put]
        refine wpAnyH_takeL (i := 27) (v := .int .i64 (ec : Int)) #[true, true, true, true, true, true, true, true, true, true, true, true, true, true, true, true, true, true, true, true, true, true, true, true, true, true, false, true, false, false, false, false, false, false, false, false, false, false, false, false, false, false, false, false, false, false, false, false, false, false, false, false] rfl (by kernel_rfl) (by kernel_rfl) (by kernel_rfl) (fun _ _ _ h => h) (by kernel_rfl) (Stay.refl _ _) (Or.inl ⟨by rfl, fun W hW => ?_⟩) ?_
        · go_simp
        conv => arg 8; simp [Act.put]
        refine wpAnyH_one #[true, true, true, true, true, true, true, true, true, true, true, true, true, true, true, true, true, true, true, true, true, true, true, true, true, true, true, true, false, false, false, false, false, false, false, false, false, false, false, false, false, false, false, false, false, false, false, false, false, false, false, false] (i := 26) rfl (by kernel_rfl) (by kernel_rfl) (fun K hK => ?_)
        go_simp
        go_wp2_with (go_at_call 15; refine (num_any ec z5 (ErrCell.stay0 HG.out hst) ev HEV.out).mono ?_; rintro e z6 ⟨rfl, s⟩)
        replace hst := hst.trans s
        refine hK _ _ s ?_
        clear hK
        conv => arg 8; simp [Act.put]
        refine wpAnyH_narrow (S' := Stay (fun _ => False) z6) (fun _ h => s.trans h) _ _ _ _ ?_
        clear s
        refine wpAnyH_takeL (i := 28) (v := .bool true) #[true, true, true, true, true, true, true, true, true, true, true, true, true, true, true, true, true, true, true, true, true, true, true, true, true, true, true, true, true, false, false, false, false, false, false, false, false, false, false, false, false, false, false, false, false, false, false, false, false, false, false, false] rfl (by kernel_rfl) (by kernel_rfl) (by kernel_rfl) (fun _ _ _ h => h) (by kernel_rfl) (Stay.refl _ _) (Or.inl ⟨by rfl, fun W hW => ?_⟩) ?_
        · go_simp
        conv => arg 8; simp [Act.put]
        refine wpAnyH_takeL (i := 29) (v := .bool true) #[true, true, true, true, true, true, true, true, true, true, true, true, true, true, true, true, true, true, true, true, true, true, true, true, true, true, true, true, true, true, false, false, false, false, false, false, false, false, false, false, false, false, false, false, false, false, false, false, false, false, false, false] rfl (by kernel_rfl) (by kernel_rfl) (by kernel_rfl) (fun _ _ _ h => h) (by kernel_rfl) (Stay.refl _ _) (Or.inl ⟨by rfl, fun W hW => ?_⟩) ?_
        · go_simp
        conv => arg 8; simp [Act.put]
        refine wpAnyH_takeL (i := 30) (v := .bool true) #[true, true, true, true, true, true, true, true, true, true, true, true, true, true, true, true, true, true, true, true, true, true, true, true, true, true, true, true, true, true, true, false, false, false, false, false, false, false, false, false, false, false, false, false, false, false, false, false, false, false, false, false] rfl (by kernel_rfl) (by kernel_rfl) (by kernel_rfl) (fun _ _ _ h => h) (by kernel_rfl) (Stay.refl _ _) (Or.inl ⟨by rfl, fun W hW => ?_⟩) ?_
        · go_simp
        conv => arg 8; simp [Act.put]
        refine wpAnyH_takeL (i := 31) #[true, true, true, true, true, true, true, true, true, true, true, true, true, true, true, true, true, true, true, true, true, true, true, true, true, true, true, true, true, true, true, true, false, false, false, false, false, false, false, false, false, false, false, false, false, false, false, false, false, false, false, false] rfl (by kernel_rfl) (by kernel_rfl) (by kernel_rfl) (fun _ _ _ h => h) (by kernel_rfl) (Stay.refl _ _) (yieldsIf_load rfl 23 (.tmp 16) rfl ⟨u2.heap.size, 0, none⟩ rfl _ (fun W hW => arr_64.run_load HPL.out (HB16.out.stay0 (hst.trans hW)))) ?_
        conv => arg 8; simp [Act.put]
        refine wpAnyH_takeL (i := 32) #[true, true, true, true, true, true, true, true, true, true, true, true, true, true, true, true, true, true, true, true, true, true, true, true, true, true, true, true, true, true, true, true, true, false, false, false, false, false, false, false, false, false, false, false, false, false, false, false, false, false, false, false] rfl (by kernel_rfl) (by kernel_rfl) (by kernel_rfl) (fun _ _ _ h => h) (by kernel_rfl) (Stay.refl _ _) (yieldsIf_load rfl 23 (.tmp 18) rfl ⟨u3.heap.size, 0, none⟩ rfl _ (fun W hW => arr_64.run_load HPL.out (HB18.out.stay0 (hst.trans hW)))) ?_
        conv => arg 8; simp [Act.put]
        refine wpAnyH_takeL (i := 33) (v := .bool true) #[true, true, true, true, true, true, true, true, true, true, true, true, true, true, true, true, true, true, true, true, true, true, true, true, true, true, true, true, true, true, true, true, true, true, false, false, false, false, false, false, false, false, false, false, false, false, false, false, false, false, false, false] rfl (by kernel_rfl) (by kernel_rfl) (by kernel_rfl) (fun _ _ _ h => h) (by kernel_rfl) (Stay.refl _ _) (Or.inl ⟨by rfl, fun W hW => ?_⟩) ?_
        · have keq := eq_blk W qb qb HPL.out HPL.out
          rw [beq_self_eq_true] at keq
          unfold arrV at keq ⊢
          go_simp
        conv => arg 8; simp [Act.put]
        refine wpAnyH_takeL (i := 34) (v := .bool true) #[true, true, true, true, true, true, true, true, true, true, true, true, true, true, true, true, true, true, true, true, true, true, true, true, true, true, true, true, true, true, true, true, true, true, true, false, false, false, false, false, false, false, false, false, false, false, false, false, false, false, false, false] rfl (by kernel_rfl) (by kernel_rfl) (by kernel_rfl) (fun _ _ _ h => h) (by kernel_rfl) (Stay.refl _ _) (Or.inl ⟨by rfl, fun W hW => ?_⟩) ?_
        · go_simp
        conv => arg 8; simp [Act.put]
        refine wpAnyH_takeL (i := 35) (v := .bool true) #[true, true, true, true, true, true, true, true, true, true, true, true, true, true, true, true, true, true, true, true, true, true, true, true, true, true, true, true, true, true, true, true, true, true, true, true, false, false, false, false, false, false, false, false, false, false, false, false, false, false, false, false] rfl (by kernel_rfl) (by kernel_rfl) (by kernel_rfl) (fun _ _ _ h => h) (by kernel_rfl) (Stay.refl _ _) (Or.inl ⟨by rfl, fun W hW => ?_⟩) ?_
        · go_simp
        conv => arg 8; simp [Act.put]
        refine wpAnyH_takeL (i := 36) (v := pe) #[true, true, true, true, true, true, true, true, true, true, true, true, true, true, true, true, true, true, true, true, true, true, true, true, true, true, true, true, true, true, true, true, true, true, true, true, true, false, false, false, false, false, false, false, false, false, false, false, false, false, false, false] rfl (by kernel_rfl) (by kernel_rfl) (by kernel_rfl) (fun _ _ _ h => h) (by kernel_rfl) (Stay.refl _ _) (Or.inl ⟨by rfl, fun W hW => ?_⟩) ?_
        · go_simp
        conv => arg 8; simp [Act.put]
        refine wpAnyH_takeL (i := 38) (v := .int .i64 (qc : Int)) #[true, true, true, true, true, true, true, true, true, true, true, true, true, true, true, true, true, true, true, true, true, true, true, true, true, true, true, true, true, true, true, true, true, true, true, true, true, false, true, false, false, false, false, false, false, false, false, false, false, false, false, false] rfl (by kernel_rfl) (by kernel_rfl) (by kernel_rfl) (fun _ _ _ h => h) (by kernel_rfl) (Stay.refl _ _) (Or.inl ⟨by rfl, fun W hW => ?_⟩) ?_
        · go_simp
        conv => arg 8; simp [Act.put]
        refine wpAnyH_one #[true, true, true, true, true, true, true, true, true, true, true, true, true, true, true, true, true, true, true, true, true, true, true, true, true, true, true, true, true, true, true, true, true, true, true, true, true, true, true, false, false, false, false, false, false, false, false, false, false, false, false, false] (i := 37) rfl (by kernel_rfl) (by kernel_rfl) (fun K hK => ?_)
        go_simp
        go_wp2_with (go_at_call 15; refine (num_any qc z6 (ErrCell.stay0 HG.out hst) pe HPE1.out).mono ?_; rintro e z7 ⟨rfl, s⟩)
        replace hst := hst.trans s
        refine hK _ _ s ?_
        clear hK
        conv => arg 8; simp [Act.put]
        refine wpAnyH_narrow (S' := Stay (fun _ => False) z7) (fun _ h => s.trans h) _ _ _ _ ?_
        clear s
        refine wpAnyH_takeL (i := 39) (v := .bool true) #[true, true, true, true, true, true, true, true, true, true, true, true, true, true, true, true, true, true, true, true, true, true, true, true, true, true, true, true, true, true, true, true, true, true, true, true, true, true, true, true, false, false, false, false, false, false, false, false, false, false, false, false] rfl (by kernel_rfl) (by kernel_rfl) (by kernel_rfl) (fun _ _ _ h => h) (by kernel_rfl) (Stay.refl _ _) (Or.inl ⟨by rfl, fun W hW => ?_⟩) ?_
        · go_simp
        conv => arg 8; simp [Act.put]
        refine wpAnyH_takeL (i := 40) (v := .bool true) #[true, true, true, true, true, true, true, true, true, true, true, true, true, true, true, true, true, true, true, true, true, true, true, true, true, true, true, true, true, true, true, true, true, true, true, true, true, true, true, true, true, false, false, false, false, false, false, false, false, false, false, false] rfl (by kernel_rfl) (by kernel_rfl) (by kernel_rfl) (fun _ _ _ h => h) (by kernel_rfl) (Stay.refl _ _) (Or.inl ⟨by rfl, fun W hW => ?_⟩) ?_
        · go_simp
        conv => arg 8; simp [Act.put]
        refine wpAnyH_takeL (i := 41) (v := .bool true) #[true, true, true, true, true, true, true, true, true, true, true, true, true, true, true, true, true, true, true, true, true, true, true, true, true, true, true, true, true, true, true, true, true, true, true, true, true, true, true, true, true, true, false, false, false, false, false, false, false, false, false, false] rfl (by kernel_rfl) (by kernel_rfl) (by kernel_rfl) (fun _ _ _ h => h) (by kernel_rfl) (Stay.refl _ _) (Or.inl ⟨by rfl, fun W hW => ?_⟩) ?_
        · go_simp
        conv => arg 8; simp [Act.put]
        refine wpAnyH_takeL (i := 42) (v := .slice a7 b.length c7) #[true, true, true, true, true, true, true, true, true, true, true, true, true, true, true, true, true, true, true, true, true, true, true, true, true, true, true, true, true, true, true, true, true, true, true, true, true, true, true, true, true, true, true, false, false, false, false, false, false, false, false, false] rfl (by kernel_rfl) (by kernel_rfl) (by kernel_rfl) (fun _ _ _ h => h) (by kernel_rfl) (Stay.refl _ _) (Or.inl ⟨by rfl, fun W hW => ?_⟩) ?_
        · go_simp
        conv => arg 8; simp [Act.put]
        refine wpAnyH_takeL (i := 44) (v := .slice xa b.length xc) #[true, true, true, true, true, true, true, true, true, true, true, true, true, true, true, true, true, true, true, true, true, true, true, true, true, true, true, true, true, true, true, true, true, true, true, true, true, true, true, true, true, true, true, false, true, false, false, false, false, false, false, false] rfl (by kernel_rfl) (by kernel_rfl) (by kernel_rfl) (fun _ _ _ h => h) (by kernel_rfl) (Stay.refl _ _) (Or.inl ⟨by rfl, fun W hW => ?_⟩) ?_
        · go_simp
        conv => arg 8; simp [Act.put]
        refine wpAnyH_takeL (i := 43) (v := .string ⟨b.toArray⟩) #[true, true, true, true, true, true, true, true, true, true, true, true, true, true, true, true, true, true, true, true, true, true, true, true, true, true, true, true, true, true, true, true, true, true, true, true, true, true, true, true, true, true, true, true, true, false, false, false, false, false, false, false] rfl (by kernel_rfl) (by kernel_rfl) (by kernel_rfl) (fun _ _ _ h => h) (by kernel_rfl) (Stay.refl _ _) (Or.inl ⟨by rfl, fun W hW => ?_⟩) ?_
        · have cv := conv_slc (HM.out.stay0 (hst.trans hW))
          unfold strV at cv
          go_simp
        conv => arg 8; simp [Act.put]
        refine wpAnyH_takeL (i := 45) (v := .string ⟨b.toArray⟩) #[true, true, true, true, true, true, true, true, true, true, true, true, true, true, true, true, true, true, true, true, true, true, true, true, true, true, true, true, true, true, true, true, true, true, true, true, true, true, true, true, true, true, true, true, true, true, false, false, false, false, false, false] rfl (by kernel_rfl) (by kernel_rfl) (by kernel_rfl) (fun _ _ _ h => h) (by kernel_rfl) (Stay.refl _ _) (Or.inl ⟨by rfl, fun W hW => ?_⟩) ?_
        · have cv := conv_slc (HX.out.stay0 (hst.trans hW))
          unfold strV at cv
          go_simp
        conv => arg 8; simp [Act.put]
        refine wpAnyH_takeL (i := 46) (v := .bool true) #[true, true, true, true, true, true, true, true, true, true, true, true, true, true, true, true, true, true, true, true, true, true, true, true, true, true, true, true, true, true, true, true, true, true, true, true, true, true, true, true, true, true, true, true, true, true, true, false, false, false, false, false] rfl (by kernel_rfl) (by kernel_rfl) (by kernel_rfl) (fun _ _ _ h => h) (by kernel_rfl) (Stay.refl _ _) (Or.inl ⟨by rfl, fun W hW => ?_⟩) ?_
        · go_simp
        conv => arg 8; simp [Act.put]
        refine wpAnyH_takeL (i := 47) (v := .bool true) #[true, true, true, true, true, true, true, true, true, true, true, true, true, true, true, true, true, true, true, true, true, true, true, true, true, true, true, true, true, true, true, true, true, true, true, true, true, true, true, true, true, true, true, true, true, true, true, true, false, false, false, false] rfl (by kernel_rfl) (by kernel_rfl) (by kernel_rfl) (fun _ _ _ h => h) (by kernel_rfl) (Stay.refl _ _) (Or.inl ⟨by rfl, fun W hW => ?_⟩) ?_
        · go_simp
        conv => arg 8; simp [Act.put]
        refine wpAnyH_takeL (i := 48) (v := .bool true) #[true, true, true, true, true, true, true, true, true, true, true, true, true, true, true, true, true, true, true, true, true, true, true, true, true, true, true, true, true, true, true, true, true, true, true, true, true, true, true, true, true, true, true, true, true, true, true, true, true, false, false, false] rfl (by kernel_rfl) (by kernel_rfl) (by kernel_rfl) (fun _ _ _ h => h) (by kernel_rfl) (Stay.refl _ _) (Or.inl ⟨by rfl, fun W hW => ?_⟩) ?_
        · go_simp
        conv => arg 8; simp [Act.put]
        refine wpAnyH_one #[true, true, true, true, true, true, true, true, true, true, true, true, true, true, true, true, true, true, true, true, true, true, true, true, true, true, true, true, true, true, true, true, true, true, true, true, true, true, true, true, true, true, true, true, true, true, true, true, true, true, false, false] (i := 49) rfl (by kernel_rfl) (by kernel_rfl) (fun K hK => ?_)
        go_simp
        go_wp2_with (go_at_call 5; refine (sure_any z7).mono ?_; rintro e z8 ⟨rfl, s⟩)
        replace hst := hst.trans s
        refine hK _ _ s ?_
        clear hK
        conv => arg 8; simp [Act.put]
        refine wpAnyH_narrow (S' := Stay (fun _ => False) z8) (fun _ h => s.trans h) _ _ _ _ ?_
        clear s
        refine wpAnyH_takeL (i := 50) (v := .bool true) #[true, true, true, true, true, true, true, true, true, true, true, true, true, true, true, true, true, true, true, true, true, true, true, true, true, true, true, true, true, true, true, true, true, true, true, true, true, true, true, true, true, true, true, true, true, true, true, true, true, true, true, false] rfl (by kernel_rfl) (by kernel_rfl) (by kernel_rfl) (fun _ _ _ h => h) (by kernel_rfl) (Stay.refl _ _) (Or.inl ⟨by rfl, fun W hW => ?_⟩) ?_
        · go_simp
        conv => arg 8; simp [Act.put]
        refine wpAnyH_takeL (i := 51) (v := .bool true) #[true, true, true, true, true, true, true, true, true, true, true, true, true, true, true, true, true, true, true, true, true, true, true, true, true, true, true, true, true, true, true, true, true, true, true, true, true, true, true, true, true, true, true, true, true, true, true, true, true, true, true, true] rfl (by kernel_rfl) (by kernel_rfl) (by kernel_rfl) (fun _ _ _ h => h) (by kernel_rfl) (Stay.refl _ _) (Or.inl ⟨by rfl, fun W hW => ?_⟩) ?_
        · go_simp
        conv => arg 8; simp [Act.put]
        refine wpAnyH_done (by kernel_rfl) ?_ _
        go_wp2
        go_ret
        exact ⟨rfl, HSw.out.trans (HW.out.trans hst)⟩
      · have h1 : pb = z64 := by rw [HPB1.out, HPB.out hd]; rfl
        have h2 : pc = dc := by rw [HPC1.out, HPB.out hd]; rfl
        have hdi : ¬ ((dc : Int) = 0) := by omega
        have HHD := Lib.hid hd
        subst h1 h2
        go_wp2_with (first
          | (with_reducible refine arr_64.alloc rfl rfl ?_; rw [show List.replicate 64 0 = z64 from rfl, WD.out])
          | (refine arr_64.store rfl (.tmp 18) (.tmp 60) rfl u3.heap.size rfl z64 qb rfl len_z64 HQL.out HQ.out ?_
             intro s3 hz s
             have HCM := Lib.hid ((HSD.out.mono (Y := fun j => j = u3.heap.size) (fun _ x => x.elim)).trans s)
             have HB18 := Lib.hid hz
             clear hz s HSD HQ WD)
          | (refine arr_64.store rfl (.tmp 18) (.tmp 64) rfl u3.heap.size rfl qb z64 rfl HQL.out len_z64 HB18.out ?_
             intro wz hz s
             have HCS := Lib.hid (stay_seal (HCM.out.trans s) (fun j e => by have e' : j = u3.heap.size := e; omega))
             replace HB18 := Lib.hid hz
             have HT := Lib.hid (HC.out.trans HCS.out)
             replace HW := Lib.hid (HW.out.trans HT.out)
             have HU := Lib.hid (HU.out.stay0 HT.out)
             have HB14 := Lib.hid (HB14.out.stay0 HT.out)
             have HB16 := Lib.hid (HB16.out.stay0 HT.out)
             have HV := Lib.hid (HV.out.stay0 HW.out)
             have HV1 := Lib.hid (HV1.out.stay0 HW.out)
             have HV2 := Lib.hid (HV2.out.stay0 HW.out)
             have HM := Lib.hid (HM.out.stay0 HW.out)
             have HX := Lib.hid (HX.out.stay0 HW.out)
             have HG := Lib.hid (ErrCell.stay0 HG.out HW.out)
             clear hz s HCM HC HCS HT))
        refine wp_region_held (S := Stay (fun _ => False) wz.drew) (by kernel_rfl) ?_
        change wpAnyH _ _ _ _ _ _ _ _ (World.drew _)
        have hst : Stay (fun _ => False) wz wz.drew := Stay.drew
        refine wpAnyH_takeL (i := 0) (v := .slice a0 L.length c0) #[true, false, false, false, false, false, false, false, false, false, false, false, false, false, false, false, false, false, false, false, false, false, false, false, false, false, false, false, false, false, false, false, false, false, false, false, false, false, false, false, false, false, false, false, false, false, false, false, false, false, false, false] rfl (by kernel_rfl) (by kernel_rfl) (by kernel_rfl) (fun _ _ _ h => h) (by kernel_rfl) (Stay.refl _ _) (Or.inl ⟨by rfl, fun W hW => ?_⟩) ?_
        · go_simp
        conv => arg 8; simp [Act.put]
        refine wpAnyH_takeL (i := 4) (v := .slice a0 L.length c0) #[true, false, false, false, true, false, false, false, false, false, false, false, false, false, false, false, false, false, false, false, false, false, false, false, false, false, false, false, false, false, false, false, false, false, false, false, false, false, false, false, false, false, false, false, false, false, false, false, false, false, false, false] rfl (by kernel_rfl) (by kernel_rfl) (by kernel_rfl) (fun _ _ _ h => h) (by kernel_rfl) (Stay.refl _ _) (Or.inl ⟨by rfl, fun W hW => ?_⟩) ?_
        · go_simp
        conv => arg 8; simp [Act.put]
        refine wpAnyH_one #[true, true, false, false, true, false, false, false, false, false, false, false, false, false, false, false, false, false, false, false, false, false, false, false, false, false, false, false, false, false, false, false, false, false, false, false, false, false, false, false, false, false, false, false, false, false, false, false, false, false, false, false] (i := 1) rfl (by kernel_rfl) (by kernel_rfl) (fun K hK => ?_)
        go_simp
        go_wp2_with (go_at_call 9; refine (give_any wz.drew _ L (HV.out.stay0 hst) (by omega) HMX.out).mono ?_; rintro e z1 ⟨⟨x4, rfl, L4, hL4, hv4⟩, s⟩; obtain ⟨a4, c4, rfl⟩ := hv4.form; have HL4 := Lib.hid hL4; have HV4 := Lib.hid hv4; clear hL4 hv4)
        replace hst := hst.trans s
        refine hK _ _ s ?_
        clear hK
        conv => arg 8; simp [Act.put]
        refine wpAnyH_narrow (S' := Stay (fun _ => False) z1) (fun _ h => s.trans h) _ _ _ _ ?_
        clear s
        refine wpAnyH_one #[true, true, true, false, true, false, false, false, false, false, false, false, false, false, false, false, false, false, false, false, false, false, false, false, false, false, false, false, false, false, false, false, false, false, false, false, false, false, false, false, false, false, false, false, false, false, false, false, false, false, false, false] (i := 2) rfl (by kernel_rfl) (by kernel_rfl) (fun K hK => ?_)
        go_simp
        go_wp2_with (go_at_call 12; refine (encode_any z1 _ L4 HV4.out (by rw [HL4.out]; exact HSZ.out) (by have := congrArg List.length HL4.out; simp at this; omega)).mono ?_; rintro e z2 ⟨x5, rfl, how5, s⟩; rw [HL4.out, ← HEN.out] at how5; obtain ⟨a5, c5, rfl⟩ := how5.form; have HO5 := Lib.hid how5.slc; clear how5)
        replace hst := hst.trans s
        refine hK _ _ s ?_
        clear hK
        conv => arg 8; simp [Act.put]
        refine wpAnyH_narrow (S' := Stay (fun _ => False) z2) (fun _ h => s.trans h) _ _ _ _ ?_
        clear s
        refine wpAnyH_takeL (i := 3) (v := .string ⟨EN.toArray⟩) #[true, true, true, true, true, false, false, false, false, false, false, false, false, false, false, false, false, false, false, false, false, false, false, false, false, false, false, false, false, false, false, false, false, false, false, false, false, false, false, false, false, false, false, false, false, false, false, false, false, false, false, false] rfl (by kernel_rfl) (by kernel_rfl) (by kernel_rfl) (fun _ _ _ h => h) (by kernel_rfl) (Stay.refl _ _) (Or.inl ⟨by rfl, fun W hW => ?_⟩) ?_
        · have cv := conv_slc (HO5.out.stay0 hW)
          unfold strV at cv
          go_simp
        conv => arg 8; simp [Act.put]
        refine wpAnyH_one #[true, true, true, true, true, true, false, false, false, false, false, false, false, false, false, false, false, false, false, false, false, false, false, false, false, false, false, false, false, false, false, false, false, false, false, false, false, false, false, false, false, false, false, false, false, false, false, false, false, false, false, false] (i := 5) rfl (by kernel_rfl) (by kernel_rfl) (fun K hK => ?_)
        go_simp
        go_wp2_with (go_at_call 13; refine (rencode_any z2 _ L (HV.out.stay0 hst) HSZ.out (by omega)).mono ?_; rintro e z3 ⟨x6, rfl, how6, s⟩; rw [← HEN.out] at how6; obtain ⟨a6, c6, rfl⟩ := how6.form; have HO6 := Lib.hid how6.slc; clear how6)
        replace hst := hst.trans s
        refine hK _ _ s ?_
        clear hK
        conv => arg 8; simp [Act.put]
        refine wpAnyH_narrow (S' := Stay (fun _ => False) z3) (fun _ h => s.trans h) _ _ _ _ ?_
        clear s
        refine wpAnyH_takeL (i := 6) (v := .string ⟨EN.toArray⟩) #[true, true, true, true, true, true, true, false, false, false, false, false, false, false, false, false, false, false, false, false, false, false, false, false, false, false, false, false, false, false, false, false, false, false, false, false, false, false, false, false, false, false, false, false, false, false, false, false, false, false, false, false] rfl (by kernel_rfl) (by kernel_rfl) (by kernel_rfl) (fun _ _ _ h => h) (by kernel_rfl) (Stay.refl _ _) (Or.inl ⟨by rfl, fun W hW => ?_⟩) ?_
        · have cv := conv_slc (HO6.out.stay0 hW)
          unfold strV at cv
          go_simp
        conv => arg 8; simp [Act.put]
        refine wpAnyH_takeL (i := 7) (v := .bool true) #[true, true, true, true, true, true, true, true, false, false, false, false, false, false, false, false, false, false, false, false, false, false, false, false, false, false, false, false, false, false, false, false, false, false, false, false, false, false, false, false, false, false, false, false, false, false, false, false, false, false, false, false] rfl (by kernel_rfl) (by kernel_rfl) (by kernel_rfl) (fun _ _ _ h => h) (by kernel_rfl) (Stay.refl _ _) (Or.inl ⟨by rfl, fun W hW => ?_⟩) ?_
        · go_simp
        conv => arg 8; simp [Act.put]
        refine wpAnyH_takeL (i := 8) (v := .bool true) #[true, true, true, true, true, true, true, true, true, false, false, false, false, false, false, false, false, false, false, false, false, false, false, false, false, false, false, false, false, false, false, false, false, false, false, false, false, false, false, false, false, false, false, false, false, false, false, false, false, false, false, false] rfl (by kernel_rfl) (by kernel_rfl) (by kernel_rfl) (fun _ _ _ h => h) (by kernel_rfl) (Stay.refl _ _) (Or.inl ⟨by rfl, fun W hW => ?_⟩) ?_
        · go_simp
        conv => arg 8; simp [Act.put]
        refine wpAnyH_takeL (i := 9) (v := .slice a1 L1.length c1) #[true, true, true, true, true, true, true, true, true, true, false, false, false, false, false, false, false, false, false, false, false, false, false, false, false, false, false, false, false, false, false, false, false, false, false, false, false, false, false, false, false, false, false, false, false, false, false, false, false, false, false, false] rfl (by kernel_rfl) (by kernel_rfl) (by kernel_rfl) (fun _ _ _ h => h) (by kernel_rfl) (Stay.refl _ _) (Or.inl ⟨by rfl, fun W hW => ?_⟩) ?_
        · go_simp
        conv => arg 8; simp [Act.put]
        refine wpAnyH_takeL (i := 10) (v := .slice a2 L2.length c2) #[true, true, true, true, true, true, true, true, true, true, true, false, false, false, false, false, false, false, false, false, false, false, false, false, false, false, false, false, false, false, false, false, false, false, false, false, false, false, false, false, false, false, false, false, false, false, false, false, false, false, false, false] rfl (by kernel_rfl) (by kernel_rfl) (by kernel_rfl) (fun _ _ _ h => h) (by kernel_rfl) (Stay.refl _ _) (Or.inl ⟨by rfl, fun W hW => ?_⟩) ?_
        · go_simp
        conv => arg 8; simp [Act.put]
        refine wpAnyH_one #[true, true, true, true, true, true, true, true, true, true, true, true, false, false, false, false, false, false, false, false, false, false, false, false, false, false, false, false, false, false, false, false, false, false, false, false, false, false, false, false, false, false, false, false, false, false, false, false, false, false, false, false] (i := 11) rfl (by kernel_rfl) (by kernel_rfl) (fun K hK => ?_)
        go_simp
        go_wp2_with (go_at_call 14; refine (same_any z3 _ _ L1 L2 (HV1.out.stay0 hst) (HV2.out.stay0 hst) (HL1.out.trans HL2.out.symm)).mono ?_; rintro e z4 ⟨rfl, s⟩)
        replace hst := hst.trans s
        refine hK _ _ s ?_
        clear hK
        conv => arg 8; simp [Act.put]
        refine wpAnyH_narrow (S' := Stay (fun _ => False) z4) (fun _ h => s.trans h) _ _ _ _ ?_
        clear s
        refine wpAnyH_takeL (i := 12) (v := .bool true) #[true, true, true, true, true, true, true, true, true, true, true, true, true, false, false, false, false, false, false, false, false, false, false, false, false, false, false, false, false, false, false, false, false, false, false, false, false, false, false, false, false, false, false, false, false, false, false, false, false, false, false, false] rfl (by kernel_rfl) (by kernel_rfl) (by kernel_rfl) (fun _ _ _ h => h) (by kernel_rfl) (Stay.refl _ _) (Or.inl ⟨by rfl, fun W hW => ?_⟩) ?_
        · go_simp
        conv => arg 8; simp [Act.put]
        refine wpAnyH_takeL (i := 13) (v := .bool true) #[true, true, true, true, true, true, true, true, true, true, true, true, true, true, false, false, false, false, false, false, false, false, false, false, false, false, false, false, false, false, false, false, false, false, false, false, false, false, false, false, false, false, false, false, false, false, false, false, false, false, false, false] rfl (by kernel_rfl) (by kernel_rfl) (by kernel_rfl) (fun _ _ _ h => h) (by kernel_rfl) (Stay.refl _ _) (Or.inl ⟨by rfl, fun W hW => ?_⟩) ?_
        · go_simp
        conv => arg 8; simp [Act.put]
        refine wpAnyH_takeL (i := 14) (v := e9) #[true, true, true, true, true, true, true, true, true, true, true, true, true, true, true, false, false, false, false, false, false, false, false, false, false, false, false, false, false, false, false, false, false, false, false, false, false, false, false, false, false, false, false, false, false, false, false, false, false, false, false, false] rfl (by kernel_rfl) (by kernel_rfl) (by kernel_rfl) (fun _ _ _ h => h) (by kernel_rfl) (Stay.refl _ _) (Or.inl ⟨by rfl, fun W hW => ?_⟩) ?_
        · go_simp
        conv => arg 8; simp [Act.put]
        refine wpAnyH_takeL (i := 16) (v := .int .i64 (pc : Int)) #[true, true, true, true, true, true, true, true, true, true, true, true, true, true, true, false, true, false, false, false, false, false, false, false, false, false, false, false, false, false, false, false, false, false, false, false, false, false, false, false, false, false, false, false, false, false, false, false, false, false, false, false] rfl (by kernel_rfl) (by kernel_rfl) (by kernel_rfl) (fun _ _ _ h => h) (by kernel_rfl) (Stay.refl _ _) (Or.inl ⟨by rfl, fun W hW => ?_⟩) ?_
        · go_simp
        conv => arg 8; simp [Act.put]
        refine wpAnyH_one #[true, true, true, true, true, true, true, true, true, true, true, true, true, true, true, true, true, false, false, false, false, false, false, false, false, false, false, false, false, false, false, false, false, false, false, false, false, false, false, false, false, false, false, false, false, false, false, false, false, false, false, false] (i := 15) rfl (by kernel_rfl) (by kernel_rfl) (fun K hK => ?_)
        go_simp
        go_wp2_with (go_at_call 15; refine (num_any pc z4 (ErrCell.stay0 HG.out hst) e9 HE9.out).mono ?_; rintro e z5 ⟨rfl, s⟩)
        replace hst := hst.trans s
        refine hK _ _ s ?_
        clear hK
        conv => arg 8; simp [Act.put]
        refine wpAnyH_narrow (S' := Stay (fun _ => False) z5) (fun _ h => s.trans h) _ _ _ _ ?_
        clear s
        refine wpAnyH_takeL (i := 17) (v := .bool true) #[true, true, true, true, true, true, true, true, true, true, true, true, true, true, true, true, true, true, false, false, false, false, false, false, false, false, false, false, false, false, false, false, false, false, false, false, false, false, false, false, false, false, false, false, false, false, false, false, false, false, false, false] rfl (by kernel_rfl) (by kernel_rfl) (by kernel_rfl) (fun _ _ _ h => h) (by kernel_rfl) (Stay.refl _ _) (Or.inl ⟨by rfl, fun W hW => ?_⟩) ?_
        · go_simp
        conv => arg 8; simp [Act.put]
        refine wpAnyH_takeL (i := 18) (v := .bool true) #[true, true, true, true, true, true, true, true, true, true, true, true, true, true, true, true, true, true, true, false, false, false, false, false, false, false, false, false, false, false, false, false, false, false, false, false, false, false, false, false, false, false, false, false, false, false, false, false, false, false, false, false] rfl (by kernel_rfl) (by kernel_rfl) (by kernel_rfl) (fun _ _ _ h => h) (by kernel_rfl) (Stay.refl _ _) (Or.inl ⟨by rfl, fun W hW => ?_⟩) ?_
        · go_simp
        conv => arg 8; simp [Act.put]
        refine wpAnyH_takeL (i := 19) (v := .bool true) #[true, true, true, true, true, true, true, true, true, true, true, true, true, true, true, true, true, true, true, true, false, false, false, false, false, false, false, false, false, false, false, false, false, false, false, false, false, false, false, false, false, false, false, false, false, false, false, false, false, false, false, false] rfl (by kernel_rfl) (by kernel_rfl) (by kernel_rfl) (fun _ _ _ h => h) (by kernel_rfl) (Stay.refl _ _) (Or.inl ⟨by rfl, fun W hW => ?_⟩) ?_
        · go_simp
        conv => arg 8; simp [Act.put]
        refine wpAnyH_takeL (i := 20) #[true, true, true, true, true, true, true, true, true, true, true, true, true, true, true, true, true, true, true, true, true, false, false, false, false, false, false, false, false, false, false, false, false, false, false, false, false, false, false, false, false, false, false, false, false, false, false, false, false, false, false, false] rfl (by kernel_rfl) (by kernel_rfl) (by kernel_rfl) (fun _ _ _ h => h) (by kernel_rfl) (Stay.refl _ _) (yieldsIf_load rfl 23 (.tmp 12) rfl ⟨g, 0, none⟩ rfl _ (fun W hW => arr_64.run_load HRL.out (HU.out.stay0 (hst.trans hW)))) ?_
        conv => arg 8; simp [Act.put]
        refine wpAnyH_takeL (i := 21) #[true, true, true, true, true, true, true, true, true, true, true, true, true, true, true, true, true, true, true, true, true, true, false, false, false, false, false, false, false, false, false, false, false, false, false, false, false, false, false, false, false, false, false, false, false, false, false, false, false, false, false, false] rfl (by kernel_rfl) (by kernel_rfl) (by kernel_rfl) (fun _ _ _ h => h) (by kernel_rfl) (Stay.refl _ _) (yieldsIf_load rfl 23 (.tmp 14) rfl ⟨u1.heap.size, 0, none⟩ rfl _ (fun W hW => arr_64.run_load HRL.out (HB14.out.stay0 (hst.trans hW)))) ?_
        conv => arg 8; simp [Act.put]
        refine wpAnyH_takeL (i := 22) (v := .bool true) #[true, true, true, true, true, true, true, true, true, true, true, true, true, true, true, true, true, true, true, true, true, true, true, false, false, false, false, false, false, false, false, false, false, false, false, false, false, false, false, false, false, false, false, false, false, false, false, false, false, false, false, false] rfl (by kernel_rfl) (by kernel_rfl) (by kernel_rfl) (fun _ _ _ h => h) (by kernel_rfl) (Stay.refl _ _) (Or.inl ⟨by rfl, fun W hW => ?_⟩) ?_
        · have keq := eq_blk W rb rb HRL.out HRL.out
          rw [beq_self_eq_true] at keq
          unfold arrV at keq ⊢
          go_simp
        conv => arg 8; simp [Act.put]
        refine wpAnyH_takeL (i := 23) (v := .bool true) #[true, true, true, true, true, true, true, true, true, true, true, true, true, true, true, true, true, true, true, true, true, true, true, true, false, false, false, false, false, false, false, false, false, false, false, false, false, false, false, false, false, false, false, false, false, false, false, false, false, false, false, false] rfl (by kernel_rfl) (by kernel_rfl) (by kernel_rfl) (fun _ _ _ h => h) (by kernel_rfl) (Stay.refl _ _) (Or.inl ⟨by rfl, fun W hW => ?_⟩) ?_
        · go_simp
        conv => arg 8; simp [Act.put]
        refine wpAnyH_takeL (i := 24) (v := .bool true) #[true, true, true, true, true, true, true, true, true, true, true, true, true, true, true, true, true, true, true, true, true, true, true, true, true, false, false, false, false, false, false, false, false, false, false, false, false, false, false, false, false, false, false, false, false, false, false, false, false, false, false, false] rfl (by kernel_rfl) (by kernel_rfl) (by kernel_rfl) (fun _ _ _ h => h) (by kernel_rfl) (Stay.refl _ _) (Or.inl ⟨by rfl, fun W hW => ?_⟩) ?_
        · go_simp
        conv => arg 8; simp [Act.put]
        refine wpAnyH_takeL (i := 25) (v := ev) #[true, true, true, true, true, true, true, true, true, true, true, true, true, true, true, true, true, true, true, true, true, true, true, true, true, true, false, false, false, false, false, false, false, false, false, false, false, false, false, false, false, false, false, false, false, false, false, false, false, false, false, false] rfl (by kernel_rfl) (by kernel_rfl) (by kernel_rfl) (fun _ _ _ h => h) (by kernel_rfl) (Stay.refl _ _) (Or.inl ⟨by rfl, fun W hW => ?_⟩) ?_
        · go_simp
        conv => arg 8; simp [Act.put]
        refine wpAnyH_takeL (i := 27) (v := .int .i64 (ec : Int)) #[true, true, true, true, true, true, true, true, true, true, true, true, true, true, true, true, true, true, true, true, true, true, true, true, true, true, false, true, false, false, false, false, false, false, false, false, false, false, false, false, false, false, false, false, false, false, false, false, false, false, false, false] rfl (by kernel_rfl) (by kernel_rfl) (by kernel_rfl) (fun _ _ _ h => h) (by kernel_rfl) (Stay.refl _ _) (Or.inl ⟨by rfl, fun W hW => ?_⟩) ?_
        · go_simp
        conv => arg 8; simp [Act.put]
        refine wpAnyH_one #[true, true, true, true, true, true, true, true, true, true, true, true, true, true, true, true, true, true, true, true, true, true, true, true, true, true, true, true, false, false, false, false, false, false, false, false, false, false, false, false, false, false, false, false, false, false, false, false, false, false, false, false] (i := 26) rfl (by kernel_rfl) (by kernel_rfl) (fun K hK => ?_)
        go_simp
        go_wp2_with (go_at_call 15; refine (num_any ec z5 (ErrCell.stay0 HG.out hst) ev HEV.out).mono ?_; rintro e z6 ⟨rfl, s⟩)
        replace hst := hst.trans s
        refine hK _ _ s ?_
        clear hK
        conv => arg 8; simp [Act.put]
        refine wpAnyH_narrow (S' := Stay (fun _ => False) z6) (fun _ h => s.trans h) _ _ _ _ ?_
        clear s
        refine wpAnyH_takeL (i := 28) (v := .bool true) #[true, true, true, true, true, true, true, true, true, true, true, true, true, true, true, true, true, true, true, true, true, true, true, true, true, true, true, true, true, false, false, false, false, false, false, false, false, false, false, false, false, false, false, false, false, false, false, false, false, false, false, false] rfl (by kernel_rfl) (by kernel_rfl) (by kernel_rfl) (fun _ _ _ h => h) (by kernel_rfl) (Stay.refl _ _) (Or.inl ⟨by rfl, fun W hW => ?_⟩) ?_
        · go_simp
        conv => arg 8; simp [Act.put]
        refine wpAnyH_takeL (i := 29) (v := .bool true) #[true, true, true, true, true, true, true, true, true, true, true, true, true, true, true, true, true, true, true, true, true, true, true, true, true, true, true, true, true, true, false, false, false, false, false, false, false, false, false, false, false, false, false, false, false, false, false, false, false, false, false, false] rfl (by kernel_rfl) (by kernel_rfl) (by kernel_rfl) (fun _ _ _ h => h) (by kernel_rfl) (Stay.refl _ _) (Or.inl ⟨by rfl, fun W hW => ?_⟩) ?_
        · go_simp
        conv => arg 8; simp [Act.put]
        refine wpAnyH_takeL (i := 30) (v := .bool true) #[true, true, true, true, true, true, true, true, true, true, true, true, true, true, true, true, true, true, true, true, true, true, true, true, true, true, true, true, true, true, true, false, false, false, false, false, false, false, false, false, false, false, false, false, false, false, false, false, false, false, false, false] rfl (by kernel_rfl) (by kernel_rfl) (by kernel_rfl) (fun _ _ _ h => h) (by kernel_rfl) (Stay.refl _ _) (Or.inl ⟨by rfl, fun W hW => ?_⟩) ?_
        · go_simp
        conv => arg 8; simp [Act.put]
        refine wpAnyH_takeL (i := 31) #[true, true, true, true, true, true, true, true, true, true, true, true, true, true, true, true, true, true, true, true, true, true, true, true, true, true, true, true, true, true, true, true, false, false, false, false, false, false, false, false, false, false, false, false, false, false, false, false, false, false, false, false] rfl (by kernel_rfl) (by kernel_rfl) (by kernel_rfl) (fun _ _ _ h => h) (by kernel_rfl) (Stay.refl _ _) (yieldsIf_load rfl 23 (.tmp 16) rfl ⟨u2.heap.size, 0, none⟩ rfl _ (fun W hW => arr_64.run_load len_z64 (HB16.out.stay0 (hst.trans hW)))) ?_
        conv => arg 8; simp [Act.put]
        refine wpAnyH_takeL (i := 32) #[true, true, true, true, true, true, true, true, true, true, true, true, true, true, true, true, true, true, true, true, true, true, true, true, true, true, true, true, true, true, true, true, true, false, false, false, false, false, false, false, false, false, false, false, false, false, false, false, false, false, false, false] rfl (by kernel_rfl) (by kernel_rfl) (by kernel_rfl) (fun _ _ _ h => h) (by kernel_rfl) (Stay.refl _ _) (yieldsIf_load rfl 23 (.tmp 18) rfl ⟨u3.heap.size, 0, none⟩ rfl _ (fun W hW => arr_64.run_load len_z64 (HB18.out.stay0 (hst.trans hW)))) ?_
        conv => arg 8; simp [Act.put]
        refine wpAnyH_takeL (i := 33) (v := .bool true) #[true, true, true, true, true, true, true, true, true, true, true, true, true, true, true, true, true, true, true, true, true, true, true, true, true, true, true, true, true, true, true, true, true, true, false, false, false, false, false, false, false, false, false, false, false, false, false, false, false, false, false, false] rfl (by kernel_rfl) (by kernel_rfl) (by kernel_rfl) (fun _ _ _ h => h) (by kernel_rfl) (Stay.refl _ _) (Or.inl ⟨by rfl, fun W hW => ?_⟩) ?_
        · have keq := eq_blk W z64 z64 len_z64 len_z64
          rw [beq_self_eq_true] at keq
          unfold arrV at keq ⊢
          go_simp
        conv => arg 8; simp [Act.put]
        refine wpAnyH_takeL (i := 34) (v := .bool true) #[true, true, true, true, true, true, true, true, true, true, true, true, true, true, true, true, true, true, true, true, true, true, true, true, true, true, true, true, true, true, true, true, true, true, true, false, false, false, false, false, false, false, false, false, false, false, false, false, false, false, false, false] rfl (by kernel_rfl) (by kernel_rfl) (by kernel_rfl) (fun _ _ _ h => h) (by kernel_rfl) (Stay.refl _ _) (Or.inl ⟨by rfl, fun W hW => ?_⟩) ?_
        · go_simp
        conv => arg 8; simp [Act.put]
        refine wpAnyH_takeL (i := 35) (v := .bool true) #[true, true, true, true, true, true, true, true, true, true, true, true, true, true, true, true, true, true, true, true, true, true, true, true, true, true, true, true, true, true, true, true, true, true, true, true, false, false, false, false, false, false, false, false, false, false, false, false, false, false, false, false] rfl (by kernel_rfl) (by kernel_rfl) (by kernel_rfl) (fun _ _ _ h => h) (by kernel_rfl) (Stay.refl _ _) (Or.inl ⟨by rfl, fun W hW => ?_⟩) ?_
        · go_simp
        conv => arg 8; simp [Act.put]
        refine wpAnyH_takeL (i := 36) (v := pe) #[true, true, true, true, true, true, true, true, true, true, true, true, true, true, true, true, true, true, true, true, true, true, true, true, true, true, true, true, true, true, true, true, true, true, true, true, true, false, false, false, false, false, false, false, false, false, false, false, false, false, false, false] rfl (by kernel_rfl) (by kernel_rfl) (by kernel_rfl) (fun _ _ _ h => h) (by kernel_rfl) (Stay.refl _ _) (Or.inl ⟨by rfl, fun W hW => ?_⟩) ?_
        · go_simp
        conv => arg 8; simp [Act.put]
        refine wpAnyH_takeL (i := 38) (v := .int .i64 (pc : Int)) #[true, true, true, true, true, true, true, true, true, true, true, true, true, true, true, true, true, true, true, true, true, true, true, true, true, true, true, true, true, true, true, true, true, true, true, true, true, false, true, false, false, false, false, false, false, false, false, false, false, false, false, false] rfl (by kernel_rfl) (by kernel_rfl) (by kernel_rfl) (fun _ _ _ h => h) (by kernel_rfl) (Stay.refl _ _) (Or.inl ⟨by rfl, fun W hW => ?_⟩) ?_
        · go_simp
        conv => arg 8; simp [Act.put]
        refine wpAnyH_one #[true, true, true, true, true, true, true, true, true, true, true, true, true, true, true, true, true, true, true, true, true, true, true, true, true, true, true, true, true, true, true, true, true, true, true, true, true, true, true, false, false, false, false, false, false, false, false, false, false, false, false, false] (i := 37) rfl (by kernel_rfl) (by kernel_rfl) (fun K hK => ?_)
        go_simp
        go_wp2_with (go_at_call 15; refine (num_any pc z6 (ErrCell.stay0 HG.out hst) pe HPE1.out).mono ?_; rintro e z7 ⟨rfl, s⟩)
        replace hst := hst.trans s
        refine hK _ _ s ?_
        clear hK
        conv => arg 8; simp [Act.put]
        refine wpAnyH_narrow (S' := Stay (fun _ => False) z7) (fun _ h => s.trans h) _ _ _ _ ?_
        clear s
        refine wpAnyH_takeL (i := 39) (v := .bool true) #[true, true, true, true, true, true, true, true, true, true, true, true, true, true, true, true, true, true, true, true, true, true, true, true, true, true, true, true, true, true, true, true, true, true, true, true, true, true, true, true, false, false, false, false, false, false, false, false, false, false, false, false] rfl (by kernel_rfl) (by kernel_rfl) (by kernel_rfl) (fun _ _ _ h => h) (by kernel_rfl) (Stay.refl _ _) (Or.inl ⟨by rfl, fun W hW => ?_⟩) ?_
        · go_simp
        conv => arg 8; simp [Act.put]
        refine wpAnyH_takeL (i := 40) (v := .bool true) #[true, true, true, true, true, true, true, true, true, true, true, true, true, true, true, true, true, true, true, true, true, true, true, true, true, true, true, true, true, true, true, true, true, true, true, true, true, true, true, true, true, false, false, false, false, false, false, false, false, false, false, false] rfl (by kernel_rfl) (by kernel_rfl) (by kernel_rfl) (fun _ _ _ h => h) (by kernel_rfl) (Stay.refl _ _) (Or.inl ⟨by rfl, fun W hW => ?_⟩) ?_
        · go_simp
        conv => arg 8; simp [Act.put]
        refine wpAnyH_takeL (i := 41) (v := .bool true) #[true, true, true, true, true, true, true, true, true, true, true, true, true, true, true, true, true, true, true, true, true, true, true, true, true, true, true, true, true, true, true, true, true, true, true, true, true, true, true, true, true, true, false, false, false, false, false, false, false, false, false, false] rfl (by kernel_rfl) (by kernel_rfl) (by kernel_rfl) (fun _ _ _ h => h) (by kernel_rfl) (Stay.refl _ _) (Or.inl ⟨by rfl, fun W hW => ?_⟩) ?_
        · go_simp
        conv => arg 8; simp [Act.put]
        refine wpAnyH_takeL (i := 42) (v := .slice a7 b.length c7) #[true, true, true, true, true, true, true, true, true, true, true, true, true, true, true, true, true, true, true, true, true, true, true, true, true, true, true, true, true, true, true, true, true, true, true, true, true, true, true, true, true, true, true, false, false, false, false, false, false, false, false, false] rfl (by kernel_rfl) (by kernel_rfl) (by kernel_rfl) (fun _ _ _ h => h) (by kernel_rfl) (Stay.refl _ _) (Or.inl ⟨by rfl, fun W hW => ?_⟩) ?_
        · go_simp
        conv => arg 8; simp [Act.put]
        refine wpAnyH_takeL (i := 44) (v := .slice xa b.length xc) #[true, true, true, true, true, true, true, true, true, true, true, true, true, true, true, true, true, true, true, true, true, true, true, true, true, true, true, true, true, true, true, true, true, true, true, true, true, true, true, true, true, true, true, false, true, false, false, false, false, false, false, false] rfl (by kernel_rfl) (by kernel_rfl) (by kernel_rfl) (fun _ _ _ h => h) (by kernel_rfl) (Stay.refl _ _) (Or.inl ⟨by rfl, fun W hW => ?_⟩) ?_
        · go_simp
        conv => arg 8; simp [Act.put]
        refine wpAnyH_takeL (i := 43) (v := .string ⟨b.toArray⟩) #[true, true, true, true, true, true, true, true, true, true, true, true, true, true, true, true, true, true, true, true, true, true, true, true, true, true, true, true, true, true, true, true, true, true, true, true, true, true, true, true, true, true, true, true, true, false, false, false, false, false, false, false] rfl (by kernel_rfl) (by kernel_rfl) (by kernel_rfl) (fun _ _ _ h => h) (by kernel_rfl) (Stay.refl _ _) (Or.inl ⟨by rfl, fun W hW => ?_⟩) ?_
        · have cv := conv_slc (HM.out.stay0 (hst.trans hW))
          unfold strV at cv
          go_simp
        conv => arg 8; simp [Act.put]
        refine wpAnyH_takeL (i := 45) (v := .string ⟨b.toArray⟩) #[true, true, true, true, true, true, true, true, true, true, true, true, true, true, true, true, true, true, true, true, true, true, true, true, true, true, true, true, true, true, true, true, true, true, true, true, true, true, true, true, true, true, true, true, true, true, false, false, false, false, false, false] rfl (by kernel_rfl) (by kernel_rfl) (by kernel_rfl) (fun _ _ _ h => h) (by kernel_rfl) (Stay.refl _ _) (Or.inl ⟨by rfl, fun W hW => ?_⟩) ?_
        · have cv := conv_slc (HX.out.stay0 (hst.trans hW))
          unfold strV at cv
          go_simp
        conv => arg 8; simp [Act.put]
        refine wpAnyH_takeL (i := 46) (v := .bool true) #[true, true, true, true, true, true, true, true, true, true, true, true, true, true, true, true, true, true, true, true, true, true, true, true, true, true, true, true, true, true, true, true, true, true, true, true, true, true, true, true, true, true, true, true, true, true, true, false, false, false, false, false] rfl (by kernel_rfl) (by kernel_rfl) (by kernel_rfl) (fun _ _ _ h => h) (by kernel_rfl) (Stay.refl _ _) (Or.inl ⟨by rfl, fun W hW => ?_⟩) ?_
        · go_simp
        conv => arg 8; simp [Act.put]
        refine wpAnyH_takeL (i := 47) (v := .bool true) #[true, true, true, true, true, true, true, true, true, true, true, true, true, true, true, true, true, true, true, true, true, true, true, true, true, true, true, true, true, true, true, true, true, true, true, true, true, true, true, true, true, true, true, true, true, true, true, true, false, false, false, false] rfl (by kernel_rfl) (by kernel_rfl) (by kernel_rfl) (fun _ _ _ h => h) (by kernel_rfl) (Stay.refl _ _) (Or.inl ⟨by rfl, fun W hW => ?_⟩) ?_
        · go_simp
        conv => arg 8; simp [Act.put]
        refine wpAnyH_takeL (i := 48) (v := .bool true) #[true, true, true, true, true, true, true, true, true, true, true, true, true, true, true, true, true, true, true, true, true, true, true, true, true, true, true, true, true, true, true, true, true, true, true, true, true, true, true, true, true, true, true, true, true, true, true, true, true, false, false, false] rfl (by kernel_rfl) (by kernel_rfl) (by kernel_rfl) (fun _ _ _ h => h) (by kernel_rfl) (Stay.refl _ _) (Or.inl ⟨by rfl, fun W hW => ?_⟩) ?_
        · go_simp
        conv => arg 8; simp [Act.put]
        refine wpAnyH_one #[true, true, true, true, true, true, true, true, true, true, true, true, true, true, true, true, true, true, true, true, true, true, true, true, true, true, true, true, true, true, true, true, true, true, true, true, true, true, true, true, true, true, true, true, true, true, true, true, true, true, false, false] (i := 49) rfl (by kernel_rfl) (by kernel_rfl) (fun K hK => ?_)
        go_simp
        go_wp2_with (go_at_call 5; refine (sure_any z7).mono ?_; rintro e z8 ⟨rfl, s⟩)
        replace hst := hst.trans s
        refine hK _ _ s ?_
        clear hK
        conv => arg 8; simp [Act.put]
        refine wpAnyH_narrow (S' := Stay (fun _ => False) z8) (fun _ h => s.trans h) _ _ _ _ ?_
        clear s
        refine wpAnyH_takeL (i := 50) (v := .bool true) #[true, true, true, true, true, true, true, true, true, true, true, true, true, true, true, true, true, true, true, true, true, true, true, true, true, true, true, true, true, true, true, true, true, true, true, true, true, true, true, true, true, true, true, true, true, true, true, true, true, true, true, false] rfl (by kernel_rfl) (by kernel_rfl) (by kernel_rfl) (fun _ _ _ h => h) (by kernel_rfl) (Stay.refl _ _) (Or.inl ⟨by rfl, fun W hW => ?_⟩) ?_
        · go_simp
        conv => arg 8; simp [Act.put]
        refine wpAnyH_takeL (i := 51) (v := .bool true) #[true, true, true, true, true, true, true, true, true, true, true, true, true, true, true, true, true, true, true, true, true, true, true, true, true, true, true, true, true, true, true, true, true, true, true, true, true, true, true, true, true, true, true, true, true, true, true, true, true, true, true, true] rfl (by kernel_rfl) (by kernel_rfl) (by kernel_rfl) (fun _ _ _ h => h) (by kernel_rfl) (Stay.refl _ _) (Or.inl ⟨by rfl, fun W hW => ?_⟩) ?_
        · go_simp
        conv => arg 8; simp [Act.put]
        refine wpAnyH_done (by kernel_rfl) ?_ _
        go_wp2
        go_ret
        exact ⟨rfl, HSw.out.trans (HW.out.trans hst)⟩
end Go.Proofs.YtnlknnhibnfhcaaDoor.De

/-
  DeltaReads answers true wherever what it reads is of the bulk that is said, and each argument reads afterwards as it read before; errors.errorType stands as the program's text lays it (the card ties it).
-/
namespace Go.Proofs.YtnlknnhibnfhcaaDoor
open Go.ChangeShapes Go.WideShapes Go.ChangeAt Go.RowKit
set_option maxRecDepth 100000

theorem deltaReads_contract (H : Type) (enc : TypeId × Value → H) (W : World) (base : Nat) (args : Array Value) (ds gs : List (DataW H)) (before : List MemPlace)
    (hval0 : ∀ (j : Nat) t v, Tryd.f3.params[j]? = some t → args[j]? = some v → Value.okWide Tryd.prog W .any base t v)
    (hW : DataW.Whole enc Tryd.prog Tryd.f3.params.toList Rows.deltaReadsSpec.vars false W args.toList ds gs before) (hk : Rows.uptoSmall H (ds ++ gs) = true)
    (hL : laidMetH Tryd.prog Pk.laidErr W) :
    Calls Tryd.prog 3 args W fun e W' => ∃ v, e = .returned v ∧ Rows.deltaReadsSpec.post enc Tryd.prog Tryd.f3 false true false false W args v W' := by
  have hval := hval0
  have hW' := hW
  obtain ⟨p, q, hA0, hV, rfl, hfz, hnd⟩ := hW
  have hA : DataW.TrodAll enc Tryd.prog W 0 (fun _ => true) true Tryd.f3.params.toList args.toList ds p := hA0
  have hAk := hA
  rw [Tryd.params3] at hA hval
  obtain ⟨v0, v1, v2, d0, d1, d2, p0, p1, p2, rfl, rfl, rfl, h0, h1, h2⟩ := trodAll_three hA
  obtain ⟨rfl, rfl⟩ := trodVars_none hV
  obtain ⟨l0, hl0, rfl⟩ := open_blk (hval 0 23 v0 rfl rfl) h0
  obtain ⟨a1, m1, c1, rfl⟩ := okWide_slice Tryd.underlying24 (hval 1 24 v1 rfl rfl)
  obtain ⟨a2, m2, c2, rfl⟩ := okWide_slice Tryd.underlying25 (hval 2 25 v2 rfl rfl)
  obtain ⟨L1, rfl, hx1, hm1, hb1⟩ := De.open_parts h1
  obtain ⟨l2, rfl, hx2, hm2⟩ := Pk.open_slc h2
  have hg := Pk.err_of_laid hL
  have hbulk : Rows.uptoBulkAll [d0, d1, d2] ≤ 1048576 := by
    have h : Rows.uptoBulkAll ([d0, d1, d2] ++ []) ≤ 1048576 := of_decide_eq_true hk
    simpa only [List.append_nil] using h
  have hq1 : Rows.uptoBulk d1 ≤ 1048576 := Nat.le_trans (De.bulk_part (List.mem_cons_of_mem _ (List.mem_cons_self ..))) hbulk
  have hq2 : Rows.uptoBulk d2 ≤ 1048576 := Nat.le_trans (De.bulk_part (List.mem_cons_of_mem _ (List.mem_cons_of_mem _ (List.mem_cons_self ..)))) hbulk
  have hlen : l2.length ≤ 140737488355328 := by
    rcases Nat.eq_zero_or_pos l2.length with h | h
    · omega
    · obtain ⟨e, s, rfl, he⟩ := hm2 h
      have h2 := De.bulk_length e
      simp only [Rows.uptoBulk] at hq2
      omega
  clear hA0 hval0 hval
  simp only [List.append_nil] at hW' hAk
  refine (De.reads_walk W l0 _ L1 _ l2 hg hl0 hx1 hx2 hlen (fun q hq => by have := hb1 q hq; omega)).mono fun e W' ⟨he, hst⟩ => ?_
  subst he
  exact ⟨_, rfl, law_post Tryd.laidOut hW' hAk (fun t ht => by
      rw [Tryd.params3] at ht
      simp at ht
      rcases ht with rfl | rfl | rfl <;> exact ⟨by kernel_rfl, of_decide_eq_true (by kernel_rfl)⟩) rfl rfl rfl rfl (by kernel_rfl) Tryd.underlying4 (hst.toBelow (Nat.le_refl _) (fun _ x => x.elim))⟩

theorem deltaReads_reads (os : Os) {H : Type} (enc : TypeId × Value → H) : ∃ places, DataW.whole enc Tryd.prog ((Pk.laidWorld os).forCall (fun _ _ => 0) ⟨#[], #[.agg (cellsB (List.replicate 64 0)).toArray, .slice none 0 0, .slice none 0 0], []⟩).memory Tryd.f3.params.toList Rows.deltaReadsSpec.vars false #[Value.agg (cellsB (List.replicate 64 0)).toArray, Value.slice none 0 0, Value.slice none 0 0].toList 8 = some ([.agg (List.replicate 64 (.lit (.int .u8 0))), .nil, .nil], [], places) :=
  ⟨[], by kernel_rfl⟩

theorem deltaReads_lifted (os : Os) (started : os.Started) (H : Type) (enc : TypeId × Value → H) (F : Stop.Interp) :
    ReturnsInHanded {} Tryd.checked os 3 .any ((Rows.OpenSpec.upto Rows.deltaReadsSpec).preRow enc Tryd.prog Tryd.f3 Rows.deltaReadsUptoRow.domain false Rows.deltaReadsUptoRow.laid) (((Rows.OpenSpec.upto Rows.deltaReadsSpec).at F).post enc Tryd.prog Tryd.f3 false true false false) := by
  obtain ⟨places, hx⟩ := deltaReads_reads os enc
  refine returnsInHanded_of_row (C := Tryd.checked) (s := Rows.OpenSpec.upto Rows.deltaReadsSpec) Tryd.own started (by kernel_rfl) Tryd.func3
    (witness_row_at (enc := enc) (C := Tryd.checked) false (Pk.laidWorld os) #[.agg (cellsB (List.replicate 64 0)).toArray, .slice none 0 0, .slice none 0 0] rfl (by kernel_rfl) (by kernel_rfl) (by kernel_rfl)
      (OpenSpec.preRow_of_cond 8 hx (by kernel_rfl) (fun k hk => by cases hk; kernel_rfl) (by kernel_rfl) (Pk.laidWorld_met os _))) ?_
  intro W base args ds gs before hval hW _ hcond _ hL _ _
  exact deltaReads_contract H enc W base args ds gs before hval hW (hcond _ rfl) hL

theorem deltaReads_upto : Rows.DeltaReadsUptoSaid :=
  OpenClaim.holds_of_cond 3 Tryd.f3 rfl rfl rfl rfl rfl rfl rfl ⟨rfl, rfl, rfl, rfl, rfl⟩ rfl rfl rfl rfl rfl (by kernel_rfl) Tryd.func3 (by kernel_rfl)
    (of_decide_eq_true (by kernel_rfl)) (by unfold Func.isWrapper; rw [if_neg (of_decide_eq_false (by kernel_rfl))]; exact ⟨rfl, rfl⟩)
    (fun os started H enc _ F => by rw [OpenClaim.pre_eq_preRow]; exact deltaReads_lifted os started H enc F)

theorem deltaReads_holds : Rows.DeltaReadsUptoCardSaid :=
  Claim7.holds_tied_plain_at .later [] _ _ _ _
    deltaReads_upto (fun _ h => by cases h) (by kernel_rfl) (fun _ h => by cases h) deltaReadsUpto_row_tie rfl ⟨rfl, rfl⟩ (by kernel_rfl) rfl
    (fun f fn hf hfn => by
      obtain rfl : f = 3 := Option.some.inj ((show Tryd.prog.funcNamed "drydock/drydocklaw10.DeltaReads" = some 3 by kernel_rfl).symm.trans hf) |>.symm
      obtain rfl : fn = Tryd.f3 := (Option.some.inj (Tryd.func3.symm.trans hfn)).symm
      exact ⟨by kernel_rfl, fun j t ht => by
        rw [Tryd.params3] at ht
        have h3 : t = 23 ∨ t = 24 ∨ t = 25 := by
          rcases j with _ | _ | _ | j
          · exact .inl (by simpa using ht.symm)
          · exact .inr (.inl (by simpa using ht.symm))
          · exact .inr (.inr (by simpa using ht.symm))
          · simp at ht
        rcases h3 with rfl | rfl | rfl
        · exact (show Tryd.prog.wantsStandIn 23 = false by kernel_rfl)
        · exact (show Tryd.prog.wantsStandIn 24 = false by kernel_rfl)
        · exact (show Tryd.prog.wantsStandIn 25 = false by kernel_rfl)⟩)
    (by kernel_rfl)

end Go.Proofs.YtnlknnhibnfhcaaDoor

