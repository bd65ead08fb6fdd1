/-
  sketch's laws: SketchBest, walked.
-/
import Derived.Test.YtddgkckgbmgghaaSkF
namespace Go.Proofs.Ytddgkckgbmgghaa.Sk
open Go.RowKit Hn
set_option maxRecDepth 100000

/-- The cells of n sketches. -/
def qRows (L : Nat → Nat → Nat) (n : Nat) : List Value := (List.range n).flatMap fun i => qC (L i)
theorem qRows_succ (L : Nat → Nat → Nat) (n : Nat) : qRows L (n + 1) = qRows L n ++ qC (L n) := by simp [qRows, List.range_succ]
theorem length_qRows (L : Nat → Nat → Nat) : ∀ n, (qRows L n).length = n * 4
  | 0 => rfl
  | n + 1 => by rw [qRows_succ, List.length_append, length_qRows L n, length_qC]; omega
theorem qRows_get (L : Nat → Nat → Nat) {i j : Nat} (hj : j < 4) : ∀ n, i < n → (qRows L n)[i * 4 + j]? = some (.int .u32 (L i j : Int))
  | 0, h => by omega
  | n + 1, h => by
    rw [qRows_succ]
    by_cases e : i = n
    · subst e
      rw [List.getElem?_append_right (by rw [length_qRows]; omega), length_qRows, show i * 4 + j - i * 4 = j by omega]
      exact qC_get _ hj
    · rw [List.getElem?_append_left (by rw [length_qRows]; omega)]
      exact qRows_get L hj n (by omega)

theorem info_q : (Try.prog.info? 27).map (fun i => (i.zero, i.size, i.bytes)) = some (some (skV (fun _ => 0)), 4, 16) := by kernel_rfl

/-- Sketches of one's own. -/
def Mine (base : Nat) (w : World) (v : Value) (n : Nat) (L : Nat → Nat → Nat) : Prop := w.ownsRow base 27 4 v n (qRows L n)
theorem Mine.nil (base : Nat) (w : World) (L : Nat → Nat → Nat) : Mine base w (.slice none 0 0) 0 L := World.ownsRow_nil w base _ _
theorem Mine.sks {base : Nat} {w : World} {v : Value} {n : Nat} {L : Nat → Nat → Nat} (h : Mine base w v n L) : SkS w v n L := by
  have hc := fun g hg => World.ownsRow.cells (g := g) h hg
  rcases h.2 with ⟨e, hn⟩ | ⟨g, cap, cur, e, _, _, h1, h2, _⟩
  · subst hn
    rw [e]
    exact SkS.nil w L
  · refine ⟨_, cap, e, h1, by unfold maxLen at h2; omega, fun _ => ⟨g, 0, rfl, fun i hi j hj => ?_⟩⟩
    subst e
    have := hc g rfl _ _ (qRows_get L hj n hi)
    rw [add_at] at this
    rw [show 0 + i * 4 + j = 0 + (i * 4 + j) by omega]
    exact this
theorem Mine.stay0 {base : Nat} {w w' : World} {v : Value} {n : Nat} {L : Nat → Nat → Nat} (h : Mine base w v n L) (hs : Stay (fun _ => False) w w') : Mine base w' v n L := by
  refine ⟨h.1, ?_⟩
  rcases h.2 with h' | ⟨g, cap, cur, rfl, h1, hg, r⟩
  · exact .inl h'
  · exact .inr ⟨g, cap, cur, rfl, h1, (hs.block g (Array.getElem?_eq_some_iff.1 hg).1 (fun x => x)).trans hg, r⟩
theorem Mine.form {base : Nat} {w : World} {v : Value} {n : Nat} {L : Nat → Nat → Nat} (h : Mine base w v n L) : ∃ a c, v = .slice a n c := by
  rcases h.2 with ⟨e, hn⟩ | ⟨g, cap, cur, e, _⟩
  · exact ⟨none, 0, by rw [e, hn]⟩
  · exact ⟨_, _, e⟩

theorem append_sk {ops : Array Oper} {rest : List Oper} {o : Oper} {a : Act} {w : World} {Q : Exit → Act → World → Prop} (hgd : o.guard = none) (s x : Operand)
    (ho : o.op = .call { callee := .builtin .append, args := #[s, x], argTypes := #[36, 36] }) (base : Nat) (vs : Value) (hs : a.eval s = vs) (g : Nat) (hx : a.eval x = .slice (some ⟨g, 0, none⟩) 1 1) (n : Nat) (L : Nat → Nat → Nat) (ty : TypeId)
    (hm : Mine base w vs n L) (hq : QAt w g ty (L n)) (hn : (n + 1) * 16 ≤ 140737488355328) (hb : base ≤ w.heap.size)
    (h : ∀ v' w', Mine base w' v' (n + 1) L → Stay (fun k => base ≤ k) w w' → wpList Try.prog ops Q rest (a.put o.dst v') w') : wpList Try.prog ops Q (o :: rest) a w := by
  obtain ⟨i0, hi, hz0, hz1, hz2⟩ := info_parts info_q
  refine wpList_append_own_at (P := Try.prog) w hgd s x 36 ho base 27 i0 _ 4 16 Try.underlying36 hi hz0 hz1 hz2 rfl (by decide) vs n (qRows L n) hs hm ⟨g, 0, none⟩ 1 1 (qC (L n)) hx rfl
    (fun j u hu => ?_) (oneCell_qC _) (by unfold maxLen; omega) hn hb (fun v' w' h1 h2 _ _ => h v' w' ?_ (Stay.grown h2 (fun k hk => (World.ownsRow.lt hm k hk).1)))
  · have hj : j < 4 := (List.getElem?_eq_some_iff.1 hu).1
    rw [add_at, Nat.zero_add, hq.c hj, ← hu]
    exact (qC_get _ hj).symm
  · unfold Mine
    rw [qRows_succ]
    exact h1

set_option maxHeartbeats 4000000 in
theorem best_walk (w : World) (x : Value) (n : Nat) (L : Nat → Nat → Nat) (s : Nat → Nat) (hx : SkS w x n L) (hn : n * 16 ≤ 140737488355328) :
    Calls Try.prog 4 #[x, skV s] w fun e w' => e = .returned (.bool true) ∧ Stay (fun _ => False) w w' := by
  obtain ⟨i0, hi, hz0, hz1, hz2⟩ := info_parts info_q
  have HI := Lib.hid hi
  have HZ0 := Lib.hid hz0
  have HZ1 := Lib.hid hz1
  have HZ2 := Lib.hid hz2
  have HX := Lib.hid hx
  have HN := Lib.hid hn
  have H0 := Lib.hid (QAt.new w 25 s)
  have HS := Lib.hid (Stay.alloc (X := fun _ => False) w (.cells (qC s).toArray 25))
  obtain ⟨a0, c, rfl, hnc, hcm, hcell⟩ := hx
  have HC := Lib.hid hcell
  clear hi hz0 hz1 hz2 hcell hn
  unfold skV
  go_enter Try.func4, Try.ntmps4
  go_wp2
  go_loopw [5, 6] (fun v i wr => ∃ k : Nat, k ≤ n ∧ i = .int .i64 (k : Int) ∧ Mine (w.heap.size + 1) wr v k L ∧ QAt wr w.heap.size 25 s ∧ Stay (fun _ => False) w wr) (fun _ i _ => n - (intOf i).toNat)
  case atStart => exact ⟨0, by omega, rfl, Mine.nil _ _ _, H0.out, HS.out⟩
  case round =>
    obtain ⟨k, hk, rfl, hm, hs, hst⟩ := hrel
    have HM := Lib.hid hm
    have HQ := Lib.hid hs
    have HT := Lib.hid hst
    obtain ⟨va, vc, rfl⟩ := hm.form
    clear hm hs hst
    by_cases hlt : k < n
    · obtain ⟨g, o, rfl, hc⟩ := HC.out (by omega)
      have ks := Lib.hid (run_load_row q_arr (w := wr) (g := g) (o := o + k * 4) (f := L k) (fun j hj => HT.out.cell (hc k hlt j hj) (fun x => x)))
      have hs4 : Stay (fun _ => False) wr (wr.alloc (.cells (qC (L k)).toArray 27)) := Stay.alloc _ _
      have hq4 := QAt.new wr 27 (L k)
      obtain ⟨w4, hw4⟩ : ∃ w4, wr.alloc (.cells #[.int .u32 (L k 0 : Int), .int .u32 (L k 1 : Int), .int .u32 (L k 2 : Int), .int .u32 (L k 3 : Int)] 27) = w4 := ⟨_, rfl⟩
      rw [show wr.alloc (.cells (qC (L k)).toArray 27) = w4 from hw4] at hs4 hq4
      have HM4 := Lib.hid (HM.out.stay0 hs4)
      have HQ4 := Lib.hid (HQ.out.stay0 hs4)
      have HT4 := Lib.hid (HT.out.trans hs4)
      have K4 := Lib.hid hq4
      have W4 := Lib.hid hw4
      clear hs4 hq4 hw4 hc
      go_wp2_with (first
        | (refine wpList_load_run rfl 25 (.tmp 16) rfl ⟨g, o + k * 4, none⟩ rfl _ ks.out ?_; rw [show skV (L k) = .agg #[.int .u32 (L k 0 : Int), .int .u32 (L k 1 : Int), .int .u32 (L k 2 : Int), .int .u32 (L k 3 : Int)] from rfl])
        | (at_builtin; rw [W4.out]; refine append_sk rfl (.tmp 13) (.tmp 18) rfl (w.heap.size + 1) _ rfl wr.heap.size rfl k L 27 HM4.out K4.out (by have := HN.out; omega) (by have := HQ4.out.lt; omega) ?_; intro v5 w5 hm5 hs5; have HM5 := Lib.hid hm5; obtain ⟨va5, vc5, rfl⟩ := hm5.form; have HS5 := Lib.hid hs5; clear hm5 hs5))
      refine ⟨⟨k + 1, by omega, by go_num, HM5.out, HQ4.out.stay HS5.out (fun e => by have e' : w.heap.size + 1 ≤ w.heap.size := e; omega), stay_seal (X := fun j => w.heap.size + 1 ≤ j) ((HT4.out.mono (fun _ x => x.elim)).trans HS5.out) (fun j e => by have e' : w.heap.size + 1 ≤ j := e; omega)⟩, by simp [intOf]; omega⟩
    · obtain rfl : k = n := by omega
      obtain ⟨D, hDd⟩ : ∃ D : World → Prop, D = Stay (fun _ => False) wr := ⟨_, rfl⟩
      have HD := Lib.hid (show ∀ W, D W → Stay (fun _ => False) wr W by intro W h; rw [hDd] at h; exact h)
      have HDm := Lib.hid (show ∀ W, Stay (fun _ => False) wr W → D W by intro W h; rw [hDd]; exact h)
      clear hDd
      have HN0 := Lib.hid (HDm.out wr.drew Stay.drew)
      have k2 := Lib.hid (fun i : InC D => q_arr.run_load (HQ.out.stay0 (HD.out _ i.h)))
      have H1 := Lib.hid (show ∀ W, D W → Calls Try.prog 15 #[.slice va k vc, skV s] W fun e w' => e = .returned (.int .i64 (bestN L s k)) ∧ D w' from fun W hW => (best_any W _ k L s (HM.out.sks.stay0 (HD.out W hW))).mono fun e w' ⟨h1, h2⟩ => ⟨h1, HDm.out _ ((HD.out W hW).trans h2)⟩)
      have H2 := Lib.hid (show ∀ W, D W → Calls Try.prog 16 #[.slice a0 k c, skV s] W fun e w' => e = .returned (.int .i64 (bestN L s k)) ∧ D w' from fun W hW => (rbest_any W _ k L s (HX.out.stay0 (HT.out.trans (HD.out W hW)))).mono fun e w' ⟨h1, h2⟩ => ⟨h1, HDm.out _ ((HD.out W hW).trans h2)⟩)
      have H9 := Lib.hid (show ∀ W, D W → Calls Try.prog 14 #[] W fun e w' => e = .returned (.bool true) ∧ D w' from fun W hW => (sure_any W).mono fun e w' ⟨h1, h2⟩ => ⟨h1, HDm.out _ ((HD.out W hW).trans h2)⟩)
      haveI : Nonempty (InC D) := ⟨⟨_, HN0.out⟩⟩
      generalize bestN L s k = b at *
      go_wp2_with (first
        | (refine wp_region_class D HN0.out (by kernel_rfl) (by kernel_rfl) ?_
           try go_frame
           repeat (first
             | (refine quiet_loadG (by rfl) 25 (.tmp 3) rfl ⟨w.heap.size, 0, none⟩ rfl (skV s) k2.out ?_; go_frame)
             | (go_big_quiet_step (first | with_reducible exact calls_class H1.out | with_reducible exact calls_class H2.out | with_reducible exact calls_class H9.out)))
           refine wpQuiet_nil ?_
           rintro W ⟨i, rfl⟩
           have hs := HD.out _ i.h
           generalize i.w = w9 at *))
      go_ret
      exact ⟨rfl, HT.out.trans hs⟩
end Go.Proofs.Ytddgkckgbmgghaa.Sk
