/-
  table: slices.Chunk over entries: what it hands back, and the contract of its rounds, for a loop body that keeps the two boxes.
-/
import Derived.RangeFuncNested
import Derived.RangeFuncBound
import Derived.RangeFuncCalls
import Derived.RangeFuncLeaves
import Derived.RangeFuncBox
import Derived.Shelf.Abstract
import Derived.Shelf.RegionOpen
import Derived.WalkKit
import Derived.OwnWalkIn
import Derived.TacticsInMore
import Derived.LoopNIn
import Derived.LoopIn
import Derived.Test.YteogdihacohkfaaGreatDoorTbA
namespace Go.Proofs.YteogdihacohkfaaGreatDoor.Tb
open Go.RowKit Go.Shelf
open Me (En EnS EnO Box enC enV norm ltB Sorted getL posN hasB sizeL)
set_option maxRecDepth 100000
set_option linter.unusedVariables false
attribute [local go_sem] Oper.semAt_some

/-- Part number k of n entries that lie at g from o on: p of them, or as many as there are. -/
def partV (g o n p k : Nat) : Value := .slice (some ⟨g, o + k * p * 3, none⟩) (min p (n - k * p)) (min p (n - k * p))
theorem EnS.part {w : World} {g o c p k : Nat} {L : List En} (h : EnS w (.slice (some ⟨g, o, none⟩) L.length c) L) (hp : 1 ≤ p) (hk : k * p < L.length) : EnS w (partV g o L.length p k) (chunk L p k) := by
  obtain ⟨a1, c1, e, h1, h2, h3, h4⟩ := h
  cases e
  obtain ⟨g', o', e, hc⟩ := h4 (by omega)
  cases e
  have hl := length_chunk L p k
  refine ⟨_, min p (L.length - k * p), by rw [partV, hl], by rw [hl]; exact Nat.le_refl _, by omega, (fun e => by cases e), fun h0 => ⟨g, o + k * p * 3, rfl, fun i e he j u hu => ?_⟩⟩
  have hi : i < p := by
    have := (List.getElem?_eq_some_iff.1 he).1
    omega
  rw [chunk_at hi] at he
  have := hc _ e he j u hu
  rw [show o + (k * p + i) * 3 + j = o + k * p * 3 + i * 3 + j by omega] at this
  exact this

theorem chunk_any (m : Nat) (x : Value) (p : Nat) (hp : 1 ≤ p) (hp2 : (p : Int) ≤ 1000000) (hx : ∃ a n c, x = .slice a n c) (w : World) :
    CallsIn Fence.wide m Tryz.prog 62 #[x, .int .i64 (p : Int)] w fun e w' =>
      e = .returned (.func (.func 105) #[] #[.pointer (some ⟨w.heap.size, 0, none⟩), .pointer (some ⟨w.heap.size + 1, 0, none⟩)]) ∧
      w' = (w.alloc (.cells #[x] 22)).alloc (.cells #[.int .i64 (p : Int)] 3) := by
  obtain ⟨a0, n, c, rfl⟩ := hx
  refine callsIn_of_wp Tryz.func62 rfl trivial ?_ rfl
  simp only [Tryz.ntmps62, List.size_toArray, List.length_cons, List.length_nil, Nat.reduceAdd, Nat.reduceSub, Array.replicate_succ, Array.replicate_zero, List.push_toArray, List.append_toArray, List.nil_append, List.cons_append]
  gi_wp2
  go_ret
  exact ⟨rfl, rfl⟩

/-- What an int's value is, as a measure. -/
def valI : Value → Nat
  | .int _ x => x.toNat
  | _ => 0

set_option maxHeartbeats 4000000 in
/-- The rounds: part by part, each handed to the loop's body, which keeps the two boxes. -/
theorem chunk1_in (l B1 B2 n c p g o : Nat) (hn : n ≤ c) (hn2 : (n : Int) ≤ 1000000) (hp : 1 ≤ p) (hp2 : (p : Int) ≤ 1000000) (J Jx : List (Fin (cN n p)) → World → Prop) (hJdr : ∀ pre w, J pre w → J pre w.drew)
    (hY : ∀ pre x W, J pre W → pre.length < cN n p → YieldAt Fence.wide (3 - 1) Tryz.prog l #[partV g o n p x.val] W fun e W' =>
      (e = .returned (.bool true) ∧ J (pre ++ [x]) W' ∧ (W'.heap[B1]? = W.heap[B1]? ∧ W'.heap[B2]? = W.heap[B2]?)) ∨ (e = .returned (.bool false) ∧ Jx (pre ++ [x]) W'))
    (W : World) (b1 : Boxed W B1 22 (.slice (some ⟨g, o, none⟩) n c)) (b2 : Boxed W B2 3 (.int .i64 (p : Int))) (h0 : J [] W) :
    CallsIn Fence.wide 3 Tryz.prog 105 #[.func (.yield l) #[] #[], .pointer (some ⟨B1, 0, none⟩), .pointer (some ⟨B2, 0, none⟩)] W fun e W' => (∃ v, e = .returned v) ∧
      ((∃ ys, ys.map Fin.val = List.range (cN n p) ∧ J ys W') ∨ (∃ pre, (∃ k, k ≤ cN n p ∧ pre.map Fin.val = List.range k) ∧ Jx pre W')) := by
  refine callsIn_of_wp Tryz.func105 rfl trivial ?_ rfl
  simp only [Tryz.ntmps105, List.size_toArray, List.length_cons, List.length_nil, Nat.reduceAdd, Nat.reduceSub, Array.replicate_succ, Array.replicate_zero, List.push_toArray, List.append_toArray, List.nil_append, List.cons_append]
  gi_wp2
  gi_loopw [4] (fun i wr => ∃ (k m : Nat) (pre : List (Fin (cN n p))), k ≤ cN n p ∧ Hid (m = k * p) ∧ Hid (pre.map Fin.val = List.range k) ∧ i = .int .i64 (m : Int) ∧ J pre wr ∧ Boxed wr B1 22 (.slice (some ⟨g, o, none⟩) n c) ∧ Boxed wr B2 3 (.int .i64 (p : Int)))
    (fun i _ => n + p - valI i)
  case atStart => exact ⟨0, 0, [], Nat.zero_le _, Lib.hid (by omega), Lib.hid rfl, rfl, h0, b1, b2⟩
  case round =>
    obtain ⟨k, m, pre, hk, hm, hpre, rfl, hJs, c1, c2⟩ := hrel
    have d1 := c1.cell
    have d2 := c2.cell
    by_cases hlt : m < n
    · have hcm : ¬ c = m := by omega
      have hJd := hJdr _ _ hJs
      have b1d : Boxed wr.drew B1 22 (.slice (some ⟨g, o, none⟩) n c) := c1
      have b2d : Boxed wr.drew B2 3 (.int .i64 (p : Int)) := c2
      have hkn := (cN_lt (n := n) (i := k) hp).2 (by have := hm.out; omega)
      obtain ⟨fn, tmps, assign, body, hy, hR⟩ := hY _ ⟨k, hkn⟩ wr.drew hJd (by have := congrArg List.length hpre.out; rw [List.length_map, List.length_range] at this; omega)
      have HPR := Lib.hid (show (pre ++ [(⟨k, hkn⟩ : Fin (cN n p))]).map Fin.val = List.range (k + 1) by rw [List.map_append, hpre.out, List.range_succ]; rfl)
      have HNX := Lib.hid (show m + p = (k + 1) * p by rw [hm.out, Nat.add_mul, Nat.one_mul])
      have hz : partV g o n p k = .slice (some ⟨g, o + m * 3, none⟩) (((m : Int) + min (p : Int) ((n - m : Nat) : Int)).toNat - m) (((m : Int) + min (p : Int) ((n - m : Nat) : Int)).toNat - m) := by
        unfold partV
        rw [← hm.out, show ((m : Int) + min (p : Int) ((n - m : Nat) : Int)).toNat - m = min p (n - m) by omega]
      rw [hz] at hy
      clear hz
      gi_wp2
      gi_region
      all_goals gi_wp2
      all_goals (refine hR.mono ?_; rintro e W3 (⟨rfl, hJ3, hk1, hk2⟩ | ⟨rfl, hJx3⟩))
      · have c1' : Boxed W3 B1 22 (.slice (some ⟨g, o, none⟩) n c) := hk1.trans c1
        have c2' : Boxed W3 B2 3 (.int .i64 (p : Int)) := hk2.trans c2
        have d1' := c1'.cell
        have d2' := c2'.cell
        gi_wp2
        go_roundw
        case rel => exact ⟨k + 1, m + p, _, by omega, HNX, HPR, by simp <;> omega, hJ3, c1', c2'⟩
        case measure => simp [valI]; omega
      · gi_wp2
        refine bodyPost_ret (results_none rfl _ _ _) rfl ?_
        exact ⟨⟨_, rfl⟩, .inr ⟨_, ⟨k + 1, by omega, HPR.out⟩, hJx3⟩⟩
    · have hkp : k = cN n p := by
        have := mt (cN_lt (n := n) (i := k) hp).1 (by rw [← hm.out]; omega)
        omega
      gi_wp2
      go_end0
      exact ⟨⟨_, rfl⟩, .inl ⟨_, by rw [hpre.out, hkp], hJs⟩⟩
end Go.Proofs.YteogdihacohkfaaGreatDoor.Tb
