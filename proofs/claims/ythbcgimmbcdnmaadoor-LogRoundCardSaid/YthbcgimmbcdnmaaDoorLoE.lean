/-
  A region that draws, within a round of a range over a function: walked as outside of it. slices.Chunk of 56 bytes.
-/
import Derived.RangeFuncNested
import Derived.RangeFuncBound
import Derived.RangeFuncCalls
import Derived.RangeFuncLeaves
import Derived.RangeFuncBox
import Derived.Shelf.Abstract
import Derived.Shelf.RegionOpen
import Derived.OwnWalkIn
import Derived.TacticsInMore
import Derived.LoopNIn
import Derived.LoopIn
import Derived.Test.YthbcgimmbcdnmaaDoorLoD
namespace Go.Proofs.YthbcgimmbcdnmaaDoor.Lo
open Go.RowKit Go.Shelf
set_option maxRecDepth 100000
set_option linter.unusedVariables false
attribute [local go_sem] Oper.semAt_some

section
variable {P : Program} {ops : Array Oper} {Q : Exit → Act → World → Prop} {md : Region.Mode} {S : World → Prop} {l n : Nat}
theorem upon_round {o : Oper} {a : Act} {K : Act → World → Prop} : ∀ r, o.upon P a K Q r → o.uponIn (Fence.wide.inRound l) n P a K Q r
  | .ok (.value v) w', h => h
  | .ok .skip w', h => h
  | .ok (.defer d) w', h => h
  | .ok (.enter f args) w', h => ⟨fun h0 => (by cases h0), CallsIn.inRound l (callsIn_wide.2 h)⟩
  | .ok (.row row args) w', h => ⟨fun h0 => (by cases h0), fun c cs _ => (let ⟨v, w2, r, s⟩ := h c cs; ⟨v, w2, r, stepsIn_wide.2 s⟩)⟩
  | .ok (.round _ _ _ _ _) w', h => h.elim
  | .halt (.panic v) w', h => h
  | .halt (.stuck _) w', h => h.elim
def noDefer (ops : Array Oper) : Bool := ops.all fun o => match o.op with | .defer _ => false | _ => true
theorem noDefer_spec (h : noDefer ops = true) {i : Nat} {o : Oper} (hi : ops[i]? = some o) : ∀ c, o.op ≠ .defer c := by
  intro c hc
  have := (Array.all_eq_true'.1 h) o (Array.mem_of_getElem? hi)
  rw [hc] at this
  cases this
theorem wp_round {o : Oper} (hd : ∀ c, o.op ≠ .defer c) {a : Act} {w : World} {K : Act → World → Prop} (h : o.wp P a w K Q) : o.wpIn (Fence.wide.inRound l) n P a w K Q := by
  refine ⟨fun _ _ => trivial, ?_⟩
  rw [Oper.semAt_eq _ _ _ hd]
  exact upon_round _ h
theorem wpOp_round (hL : ∀ a w, ¬ Q .outgrown a w) (hd : noDefer ops = true) {i : Nat} {a : Act} {w : World} {K : Act → World → Prop} (h : wpOp P ops Q i K a w) : wpOpIn (Fence.wide.inRound l) n P ops Q i K a w := by
  unfold wpOp at h
  unfold wpOpIn
  cases hi : ops[i]? with
  | none => rw [hi] at h; exact h
  | some o =>
    rw [hi] at h
    simp only [] at h ⊢
    split at h
    · rename_i h1
      rw [if_pos h1]
      rcases h with h | ⟨_, a', w', h⟩
      · exact wp_round (noDefer_spec hd hi) h
      · exact absurd h (hL a' w')
    · rename_i h1
      rw [if_neg h1]
      exact ⟨fun _ _ => trivial, h⟩
theorem any_round (hL : ∀ a w, ¬ Q .outgrown a w) (hd : noDefer ops = true) : ∀ (fuel : Nat) (listed : Array Bool) (a : Act) (w : World), wpAny P md ops Q fuel listed a w → wpAnyIn (Fence.wide.inRound l) n P md ops Q fuel listed a w
  | 0, _, _, _, h => h
  | fuel + 1, listed, a, w, h => ⟨h.1, fun i hi => wpOp_round hL hd (wpOp_mono (fun a' w' h' => any_round hL hd fuel _ a' w' h') (h.2 i hi))⟩
/-- A region that draws, in a round: walked, held against a state, as outside of it. -/
theorem wpIn_region_held {id : Nat} {a : Act} {w : World} (hL : ∀ a w, ¬ Q .outgrown a w) (hd : noDefer ops = true) (hm : P.follows .mixedOrders = true)
    (h : wpAnyH P .any ops Q S ops.size (Array.replicate ops.size false) a { w with drawn := w.drawn + 1 }) : (Code.region id ops true).wpIn (Fence.wide.inRound l) n P Q a w :=
  wpIn_region_any hm (any_round hL hd _ _ _ _ (wpAny_of_held _ _ _ _ h))
end
/-- Part number k of n bytes that lie at a0: 64 of them, or as many as there are. -/
def partV (a0 : Option Addr) (n k : Nat) : Value := .slice (a0.map (·.add (56 * k))) (min 56 (n - 56 * k)) (min 56 (n - 56 * k))

/-- How many parts n bytes have. -/
def parts (n : Nat) : Nat := (n + 55) / 56
theorem parts_lt {n k : Nat} : k < parts n ↔ 56 * k < n := by unfold parts; omega

theorem chunk_any (m : Nat) (a0 : Option Addr) (n c : Nat) (w : World) :
    CallsIn Fence.wide m Tryd.prog 45 #[.slice a0 n c, .int .i64 56] w fun e w' =>
      e = .returned (.func (.func 62) #[] #[.pointer (some ⟨w.heap.size, 0, none⟩), .pointer (some ⟨w.heap.size + 1, 0, none⟩)]) ∧
      w' = (w.alloc (.cells #[.slice a0 n c] 36)).alloc (.cells #[.int .i64 56] 3) := by
  refine callsIn_of_wp Tryd.func45 rfl trivial ?_ rfl
  simp only [Tryd.ntmps45, List.size_toArray, List.length_cons, List.length_nil, Nat.reduceAdd, Nat.reduceSub, Array.replicate_succ, Array.replicate_zero, List.push_toArray, List.append_toArray, List.nil_append, List.cons_append]
  gi_wp2
  go_ret
  exact ⟨rfl, rfl⟩

set_option maxHeartbeats 2000000 in
/-- The rounds: part by part, each handed to the loop's body, which keeps the two boxes. -/
theorem chunk1_in (l B1 B2 n c : Nat) (a0 : Option Addr) (hn : n ≤ c) (hn2 : (n : Int) ≤ 4611686018427387904) (J Jx : List Nat → World → Prop) (hJdr : ∀ pre w, J pre w → J pre w.drew)
    (hY : ∀ pre x W, J pre W → pre.length < parts n → YieldAt Fence.wide (3 - 1) Tryd.prog l #[partV a0 n x] W fun e W' =>
      (e = .returned (.bool true) ∧ J (pre ++ [x]) W' ∧ (W'.heap[B1]? = W.heap[B1]? ∧ W'.heap[B2]? = W.heap[B2]?)) ∨ (e = .returned (.bool false) ∧ Jx (pre ++ [x]) W'))
    (W : World) (b1 : Boxed W B1 36 (.slice a0 n c)) (b2 : Boxed W B2 3 (.int .i64 56)) (h0 : J [] W) :
    CallsIn Fence.wide 3 Tryd.prog 62 #[.func (.yield l) #[] #[], .pointer (some ⟨B1, 0, none⟩), .pointer (some ⟨B2, 0, none⟩)] W fun e W' => (∃ v, e = .returned v) ∧
      ((∃ ys, ys = List.range (parts n) ∧ J ys W') ∨ (∃ pre, (∃ k, k ≤ parts n ∧ pre = List.range k) ∧ Jx pre W')) := by
  refine callsIn_of_wp Tryd.func62 rfl trivial ?_ rfl
  simp only [Tryd.ntmps62, List.size_toArray, List.length_cons, List.length_nil, Nat.reduceAdd, Nat.reduceSub, Array.replicate_succ, Array.replicate_zero, List.push_toArray, List.append_toArray, List.nil_append, List.cons_append]
  gi_wp2
  gi_loopw [4] (fun i wr => ∃ k : Nat, k ≤ parts n ∧ i = .int .i64 (56 * (k : Int)) ∧ J (List.range k) wr ∧ Boxed wr B1 36 (.slice a0 n c) ∧ Boxed wr B2 3 (.int .i64 56))
    (fun i _ => n + 56 - valI i)
  case atStart => exact ⟨0, Nat.zero_le _, rfl, h0, b1, b2⟩
  case round =>
    obtain ⟨k, hk, rfl, hJs, c1, c2⟩ := hrel
    have d1 := c1.cell
    have d2 := c2.cell
    by_cases hlt : 56 * k < n
    · have hJd := hJdr _ _ hJs
      have b1d : Boxed wr.drew B1 36 (.slice a0 n c) := c1
      have b2d : Boxed wr.drew B2 3 (.int .i64 56) := c2
      obtain ⟨fn, tmps, assign, body, hy, hR⟩ := hY _ k wr.drew hJd (by rw [List.length_range]; exact parts_lt.2 hlt)
      by_cases hfull : 56 ≤ n - 56 * k
      · have hz : partV a0 n k = .slice (Option.map (fun x => x.add (56 * k)) a0) 56 56 := by
          unfold partV
          have e1 : min 56 (n - 56 * k) = 56 := by omega
          rw [e1]
        rw [hz] at hy
        have hm1 : min 56 ((n - 56 * k : Nat) : Int) = 56 := by omega
        have hm2 : (56 * (k : Int) + 56).toNat - 56 * k = 56 := by omega
        gi_wp2
        gi_region
        all_goals gi_wp2
        all_goals (refine hR.mono ?_; rintro e W3 (⟨rfl, hJ3, hk1, hk2⟩ | ⟨rfl, hJx3⟩))
        · have c1' : Boxed W3 B1 36 (.slice a0 n c) := hk1.trans c1
          have c2' : Boxed W3 B2 3 (.int .i64 56) := hk2.trans c2
          have d1' := c1'.cell
          have d2' := c2'.cell
          gi_wp2
          go_roundw
          case rel => exact ⟨k + 1, by have := (parts_lt (n := n) (k := k)).2 hlt; omega, by simp <;> omega, by rw [List.range_succ]; exact hJ3, c1', c2'⟩
          case measure => simp [valI]; omega
        · gi_wp2
          refine bodyPost_ret (results_none rfl _ _ _) rfl ?_
          exact ⟨⟨_, rfl⟩, .inr ⟨_, ⟨k + 1, (parts_lt (n := n) (k := k)).2 hlt, List.range_succ.symm⟩, hJx3⟩⟩
      · have hz : partV a0 n k = .slice (Option.map (fun x => x.add (56 * k)) a0) (n - 56 * k) (n - 56 * k) := by
          unfold partV
          have e1 : min 56 (n - 56 * k) = (n - 56 * k) := by omega
          rw [e1]
        rw [hz] at hy
        have hm1 : min 56 ((n - 56 * k : Nat) : Int) = ((n - 56 * k : Nat) : Int) := by omega
        have hm2 : (56 * (k : Int) + ((n - 56 * k : Nat) : Int)).toNat - 56 * k = n - 56 * k := by omega
        gi_wp2
        gi_region
        all_goals gi_wp2
        all_goals (refine hR.mono ?_; rintro e W3 (⟨rfl, hJ3, hk1, hk2⟩ | ⟨rfl, hJx3⟩))
        · have c1' : Boxed W3 B1 36 (.slice a0 n c) := hk1.trans c1
          have c2' : Boxed W3 B2 3 (.int .i64 56) := hk2.trans c2
          have d1' := c1'.cell
          have d2' := c2'.cell
          gi_wp2
          go_roundw
          case rel => exact ⟨k + 1, by have := (parts_lt (n := n) (k := k)).2 hlt; omega, by simp <;> omega, by rw [List.range_succ]; exact hJ3, c1', c2'⟩
          case measure => simp [valI]; omega
        · gi_wp2
          refine bodyPost_ret (results_none rfl _ _ _) rfl ?_
          exact ⟨⟨_, rfl⟩, .inr ⟨_, ⟨k + 1, (parts_lt (n := n) (k := k)).2 hlt, List.range_succ.symm⟩, hJx3⟩⟩
    · have hkp : k = parts n := by have := mt (parts_lt (n := n) (k := k)).1 hlt; omega
      gi_wp2
      go_end0
      exact ⟨⟨_, rfl⟩, .inl ⟨_, rfl, hkp ▸ hJs⟩⟩


end Go.Proofs.YthbcgimmbcdnmaaDoor.Lo
