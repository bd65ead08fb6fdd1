/-
  toggle: slices.Chunk over bytes: what it hands back, and the contract of its rounds, for a loop body that keeps the two boxes.
-/
import Derived.RangeFuncNested
import Derived.RangeFuncBound
import Derived.RangeFuncCalls
import Derived.RangeFuncLeaves
import Derived.RangeFuncBox
import Derived.Shelf.Abstract
import Derived.Shelf.RegionOpen
import Derived.WalkKit
import Derived.OwnWalkIn
import Derived.TacticsInMore
import Derived.LoopNIn
import Derived.LoopIn
import Derived.Test.YthbcgimmbcdnmaaDoorDevT
import Derived.Test.YthbcgimmbcdnmaaDoorPkH
namespace Go.Proofs.YthbcgimmbcdnmaaDoor.Tg
open Go.RowKit Go.Shelf
set_option maxRecDepth 100000
attribute [local go_sem] Oper.semAt_some

/-- Part number k of n bytes that lie at a0: 64 of them, or as many as there are. -/
def partV (a0 : Option Addr) (n k : Nat) : Value := .slice (a0.map (·.add (64 * k))) (min 64 (n - 64 * k)) (min 64 (n - 64 * k))

/-- How many parts n bytes have. -/
def parts (n : Nat) : Nat := (n + 63) / 64
theorem parts_lt {n k : Nat} : k < parts n ↔ 64 * k < n := by unfold parts; omega

theorem chunk_any (m : Nat) (a0 : Option Addr) (n c : Nat) (w : World) :
    CallsIn Fence.wide m Tryd.prog 45 #[.slice a0 n c, .int .i64 64] w fun e w' =>
      e = .returned (.func (.func 62) #[] #[.pointer (some ⟨w.heap.size, 0, none⟩), .pointer (some ⟨w.heap.size + 1, 0, none⟩)]) ∧
      w' = (w.alloc (.cells #[.slice a0 n c] 36)).alloc (.cells #[.int .i64 64] 3) := by
  refine callsIn_of_wp Tryd.func45 rfl trivial ?_ rfl
  simp only [Tryd.ntmps45, List.size_toArray, List.length_cons, List.length_nil, Nat.reduceAdd, Nat.reduceSub, Array.replicate_succ, Array.replicate_zero, List.push_toArray, List.append_toArray, List.nil_append, List.cons_append]
  gi_wp2
  go_ret
  exact ⟨rfl, rfl⟩

/-- What an int's value is, as a measure. -/
def valI : Value → Nat
  | .int _ x => x.toNat
  | _ => 0

set_option maxHeartbeats 2000000 in
/-- The rounds: part by part, each handed to the loop's body, which keeps the two boxes. -/
theorem chunk1_in (l B1 B2 n c : Nat) (a0 : Option Addr) (hn : n ≤ c) (hn2 : (n : Int) ≤ 4611686018427387904) (J Jx : List Nat → World → Prop) (hJdr : ∀ pre w, J pre w → J pre w.drew)
    (hY : ∀ pre x W, J pre W → pre.length < parts n → YieldAt Fence.wide (3 - 1) Tryd.prog l #[partV a0 n x] W fun e W' =>
      (e = .returned (.bool true) ∧ J (pre ++ [x]) W' ∧ (W'.heap[B1]? = W.heap[B1]? ∧ W'.heap[B2]? = W.heap[B2]?)) ∨ (e = .returned (.bool false) ∧ Jx (pre ++ [x]) W'))
    (W : World) (b1 : Boxed W B1 36 (.slice a0 n c)) (b2 : Boxed W B2 3 (.int .i64 64)) (h0 : J [] W) :
    CallsIn Fence.wide 3 Tryd.prog 62 #[.func (.yield l) #[] #[], .pointer (some ⟨B1, 0, none⟩), .pointer (some ⟨B2, 0, none⟩)] W fun e W' => (∃ v, e = .returned v) ∧
      ((∃ ys, ys = List.range (parts n) ∧ J ys W') ∨ (∃ pre, (∃ k, k ≤ parts n ∧ pre = List.range k) ∧ Jx pre W')) := by
  refine callsIn_of_wp Tryd.func62 rfl trivial ?_ rfl
  simp only [Tryd.ntmps62, List.size_toArray, List.length_cons, List.length_nil, Nat.reduceAdd, Nat.reduceSub, Array.replicate_succ, Array.replicate_zero, List.push_toArray, List.append_toArray, List.nil_append, List.cons_append]
  gi_wp2
  gi_loopw [4] (fun i wr => ∃ k : Nat, k ≤ parts n ∧ i = .int .i64 (64 * (k : Int)) ∧ J (List.range k) wr ∧ Boxed wr B1 36 (.slice a0 n c) ∧ Boxed wr B2 3 (.int .i64 64))
    (fun i _ => n + 64 - valI i)
  case atStart => exact ⟨0, Nat.zero_le _, rfl, h0, b1, b2⟩
  case round =>
    obtain ⟨k, hk, rfl, hJs, c1, c2⟩ := hrel
    have d1 := c1.cell
    have d2 := c2.cell
    by_cases hlt : 64 * k < n
    · have hJd := hJdr _ _ hJs
      have b1d : Boxed wr.drew B1 36 (.slice a0 n c) := c1
      have b2d : Boxed wr.drew B2 3 (.int .i64 64) := c2
      obtain ⟨fn, tmps, assign, body, hy, hR⟩ := hY _ k wr.drew hJd (by rw [List.length_range]; exact parts_lt.2 hlt)
      by_cases hfull : 64 ≤ n - 64 * k
      · have hz : partV a0 n k = .slice (Option.map (fun x => x.add (64 * k)) a0) 64 64 := by
          unfold partV
          have e1 : min 64 (n - 64 * k) = 64 := by omega
          rw [e1]
        rw [hz] at hy
        gi_wp2
        gi_region
        all_goals gi_wp2
        all_goals (refine hR.mono ?_; rintro e W3 (⟨rfl, hJ3, hk1, hk2⟩ | ⟨rfl, hJx3⟩))
        · have c1' : Boxed W3 B1 36 (.slice a0 n c) := hk1.trans c1
          have c2' : Boxed W3 B2 3 (.int .i64 64) := hk2.trans c2
          have d1' := c1'.cell
          have d2' := c2'.cell
          gi_wp2
          go_roundw
          case rel => exact ⟨k + 1, by have := (parts_lt (n := n) (k := k)).2 hlt; omega, by simp <;> omega, by rw [List.range_succ]; exact hJ3, c1', c2'⟩
          case measure => simp [valI]; omega
        · gi_wp2
          refine bodyPost_ret (results_none rfl _ _ _) rfl ?_
          exact ⟨⟨_, rfl⟩, .inr ⟨_, ⟨k + 1, (parts_lt (n := n) (k := k)).2 hlt, List.range_succ.symm⟩, hJx3⟩⟩
      · have hz : partV a0 n k = .slice (Option.map (fun x => x.add (64 * k)) a0) (n - 64 * k) (n - 64 * k) := by
          unfold partV
          have e1 : min 64 (n - 64 * k) = (n - 64 * k) := by omega
          rw [e1]
        rw [hz] at hy
        gi_wp2
        gi_region
        all_goals gi_wp2
        all_goals (refine hR.mono ?_; rintro e W3 (⟨rfl, hJ3, hk1, hk2⟩ | ⟨rfl, hJx3⟩))
        · have c1' : Boxed W3 B1 36 (.slice a0 n c) := hk1.trans c1
          have c2' : Boxed W3 B2 3 (.int .i64 64) := hk2.trans c2
          have d1' := c1'.cell
          have d2' := c2'.cell
          gi_wp2
          go_roundw
          case rel => exact ⟨k + 1, by have := (parts_lt (n := n) (k := k)).2 hlt; omega, by simp <;> omega, by rw [List.range_succ]; exact hJ3, c1', c2'⟩
          case measure => simp [valI]; omega
        · gi_wp2
          refine bodyPost_ret (results_none rfl _ _ _) rfl ?_
          exact ⟨⟨_, rfl⟩, .inr ⟨_, ⟨k + 1, (parts_lt (n := n) (k := k)).2 hlt, List.range_succ.symm⟩, hJx3⟩⟩
    · have hkp : k = parts n := by have := mt (parts_lt (n := n) (k := k)).1 hlt; omega
      gi_wp2
      go_end0
      exact ⟨⟨_, rfl⟩, .inl ⟨_, rfl, hkp ▸ hJs⟩⟩

end Go.Proofs.YthbcgimmbcdnmaaDoor.Tg
