/-
  PackNumbers' walk.
-/
import Derived.Test.YtgfkeoicdjcfpaaDoorPkRefI
import Derived.Test.YtgfkeoicdjcfpaaDoorErrPk
import Derived.Test.YtgfkeoicdjcfpaaDoorClass
namespace Go.Proofs.YtgfkeoicdjcfpaaDoor.Pk
open Go.RowKit
set_option maxRecDepth 100000

/-- Two readers of the program and two of the document, that are at the same. -/
structure NumsAt (w0 W : World) (p1 p2 q1 q2 : Nat) (s1 s2 : RS) (x1 x2 : Value) : Prop where
  st : Stay (fun _ => False) w0 W
  r1 : RdAt (fun k => w0.heap.size ≤ k) W p1 s1
  r2 : RdAt (fun k => w0.heap.size ≤ k) W p2 s2
  b1 : W.heap[q1]? = some (.cells #[x1, .int .i64 (s1.err : Int)] 27 (0, 0))
  b2 : W.heap[q2]? = some (.cells #[x2, .int .i64 (s2.err : Int)] 27 (0, 0))
  l1 : Slc W x1 s1.b
  l2 : Slc W x2 s2.b

theorem NumsAt.stay0 {w0 W W' : World} {p1 p2 q1 q2 : Nat} {s1 s2 : RS} {x1 x2 : Value} (h : NumsAt w0 W p1 p2 q1 q2 s1 s2 x1 x2) (hs : Stay (fun _ => False) W W') : NumsAt w0 W' p1 p2 q1 q2 s1 s2 x1 x2 :=
  ⟨h.st.trans hs, h.r1.stay0 hs, h.r2.stay0 hs, (hs.block _ (lt_of_block h.b1) (fun x => x)).trans h.b1, (hs.block _ (lt_of_block h.b2) (fun x => x)).trans h.b2, h.l1.stay0 hs, h.l2.stay0 hs⟩

theorem RdAt.lt {X : Nat → Prop} {w : World} {p : Nat} {s : RS} (h : RdAt X w p s) : p < w.heap.size := by
  obtain ⟨_, x, hx, _⟩ := h
  exact lt_of_block hx

theorem rrint_at (b : List UInt8) (err : Nat) (w : World) (x v : Value) (hv : v = rdV x err) (hx : Slc w x b) : Calls Tryd.prog 9 #[v] w fun e w' => RdRet i64V w' x (takeB sigB 0 ⟨b, err⟩) e ∧ Stay (fun _ => False) w w' := by
  subst hv
  exact rrint_any b err w x hx

theorem num_err (c : Nat) (w : World) (hg : ErrCell w) : Calls Tryd.prog 20 #[errV c] w fun e w' => e = .returned (.int .i64 (c : Int)) ∧ Stay (fun _ => False) w w' := num_any c w hg (errV c) rfl
theorem rdone_agg (s : RS) (w : World) (x : Value) (hx : Slc w x s.b) : Calls Tryd.prog 22 #[.agg #[x, .int .i64 (s.err : Int)]] w fun e w' => e = .returned (.int .i64 (doneB s : Nat)) ∧ Stay (fun _ => False) w w' := rdone_ref s.b s.err w x hx

set_option maxHeartbeats 4000000 in
theorem nums_walk (b : List UInt8) (most : Nat) (x : Value) (w : World) (hg : ErrCell w) (hx : Slc w x b) (hlen : b.length ≤ 140737488355328) (hm : (most : Int) ≤ 18446744073709551615) :
    Calls Tryd.prog 4 #[x, .int .u64 most] w fun e w' => e = .returned (.bool true) ∧ Stay (fun _ => False) w w' := by
  have HG := Lib.hid hg
  have HX := Lib.hid hx
  have hmM : most ≤ M64 := by unfold M64; omega
  have HM := Lib.hid hmM
  clear hg hx hmM
  go_enter Tryd.func4, Tryd.ntmps4
  go_wp2_with fail
  refine (read_cap w x b HX.out hlen).mono ?_
  rintro e w1 ⟨p1, rfl, hr1, hs1⟩
  go_wp2_with fail
  refine (read_cap w1 x b (HX.out.stay0 hs1) hlen).mono ?_
  rintro e w2 ⟨p2, rfl, hr2, hs2⟩
  have hr1' := hr1.stay0 hs2
  have h1lt := hr1.own.2
  have hsz := hs1.size
  have hsz2 := hs2.size
  clear hr1
  go_wp2_with fail
  refine (ruint_any _ w2 p1 _ most hr1').mono ?_
  rintro e w3 ⟨rfl, hr3, hs3⟩
  have hr2' := hr2.stay hs3 (fun k hk _ e => by
    have e' : k = p1 := e
    omega)
  clear hr2 hr1'
  go_wp2_with fail
  refine (rint_any _ w3 p2 _ hr2').mono ?_
  rintro e w4 ⟨rfl, hr4, hs4⟩
  have hr3' := hr3.stay hs4 (fun k hk _ e => by
    have e' : k = p2 := e
    have := hr2'.own
    omega)
  have h2own := hr2'.own
  have hT4 : Stay (fun _ => False) w w4 := stay_seal (X := fun k => w.heap.size ≤ k) ((((hs1.trans hs2).mono (fun _ x => x.elim)).trans (hs3.mono (fun k e => by have e' : k = p1 := e; have := hr3.own.1; omega))).trans (hs4.mono (fun k e => by have e' : k = p2 := e; omega))) (fun k hk => hk)
  have hq1 := hr3'.mono (Y := fun k => w.heap.size ≤ k) (fun k hk => hk.1)
  have hq2 := hr4.mono (Y := fun k => w.heap.size ≤ k) (fun k hk => Nat.le_trans hsz hk.1)
  generalize hs1d : (takeB (numB most) 0 ⟨b, 0⟩) = t1 at *
  generalize hs2d : (takeB sigB 0 ⟨b, 0⟩) = t2 at *
  have HT1 := Lib.hid hs1d
  have HT2 := Lib.hid hs2d
  obtain ⟨n1, s1⟩ := t1
  obtain ⟨n2, s2⟩ := t2
  clear hs1d hs2d hr3 hr2' hr3' hr4 hs1 hs2 hs3 hs4 h1lt hsz hsz2 h2own
  obtain ⟨a0, c0, rfl, _⟩ := id HX.out
  go_wp2_with fail
  refine (rruint_at b 0 most _ _ _ _ rfl rfl (HX.out.stay0 hT4) HM.out).mono ?_
  rintro e w5 ⟨hret, hs5⟩
  rw [HT1.out] at hret
  obtain ⟨x5, rfl, hsub5⟩ := hret
  obtain ⟨a5, c5, rfl, _⟩ := id hsub5.1
  have hT5 := hT4.trans hs5
  have hq1' := hq1.stay0 hs5
  have hq2' := hq2.stay0 hs5
  have HS5 := Lib.hid hsub5.1
  clear hsub5 hq1 hq2 hT4 hs5
  unfold rdV
  go_wp2_with fail
  refine (rrint_at b 0 _ _ _ rfl ((HX.out.stay0 hT5).stay0 (Stay.alloc _ _))).mono ?_
  rintro e w6 ⟨hret, hs6⟩
  rw [HT2.out] at hret
  obtain ⟨x6, rfl, hsub6⟩ := hret
  obtain ⟨a6, c6, rfl, _⟩ := id hsub6.1
  have hs56 := (Stay.alloc (X := fun _ => False) w5 (.cells #[.slice a5 s1.b.length c5, .int .i64 (s1.err : Int)] 27)).trans hs6
  have hb5 := (hs6.block w5.heap.size (by simp) (fun x => x)).trans (heap_alloc_new w5 _)
  have hs67 := Stay.alloc (X := fun _ => False) w6 (.cells #[.slice a6 s2.b.length c6, .int .i64 (s2.err : Int)] 27)
  have hN : NumsAt w (w6.alloc (.cells #[.slice a6 s2.b.length c6, .int .i64 (s2.err : Int)] 27)) p1 p2 w5.heap.size w6.heap.size s1 s2 (.slice a5 s1.b.length c5) (.slice a6 s2.b.length c6) :=
    ⟨(hT5.trans hs56).trans hs67, (hq1'.stay0 hs56).stay0 hs67, (hq2'.stay0 hs56).stay0 hs67, (hs67.block _ (lt_of_block hb5) (fun x => x)).trans hb5, heap_alloc_new w6 _, (HS5.out.stay0 hs56).stay0 hs67, hsub6.1.stay0 hs67⟩
  clear hb5 hq1' hq2' hsub6 hs56 hs67 hT5 hs6 HS5
  unfold rdV u64V i64V
  go_wp2_with fail
  generalize w6.alloc (.cells #[.slice a6 s2.b.length c6, .int .i64 (s2.err : Int)] 27) = w7 at hN ⊢
  generalize w5.heap.size = q1 at *
  generalize w6.heap.size = q2 at *
  have hN := hN.stay0 Stay.drew
  obtain ⟨D, hDd⟩ : ∃ D : World → Prop, D = fun W => NumsAt w W p1 p2 q1 q2 s1 s2 (.slice a5 s1.b.length c5) (.slice a6 s2.b.length c6) := ⟨_, rfl⟩
  have HD := Lib.hid (show ∀ W, D W → NumsAt w W p1 p2 q1 q2 s1 s2 (.slice a5 s1.b.length c5) (.slice a6 s2.b.length c6) by intro W h; rw [hDd] at h; exact h)
  have HDm := Lib.hid (show ∀ W, NumsAt w W p1 p2 q1 q2 s1 s2 (.slice a5 s1.b.length c5) (.slice a6 s2.b.length c6) → D W by intro W h; rw [hDd]; exact h)
  clear hDd
  have HN := Lib.hid (HDm.out _ hN)
  have k1 := fun i : InC D => (two_cells (HD.out _ i.h).b1).1
  have k2 := fun i : InC D => (two_cells (HD.out _ i.h).b1).2.1
  have k3 := fun i : InC D => (two_cells (HD.out _ i.h).b2).1
  have k4 := fun i : InC D => (two_cells (HD.out _ i.h).b2).2.1
  have H1 := Lib.hid (show ∀ W, D W → Calls Tryd.prog 21 #[.pointer (some ⟨p1, 0, none⟩)] W fun e w' => e = .returned (errV (doneB s1)) ∧ D w' from fun W h => (rdone_any _ _ p1 s1 (HD.out W h).r1).mono fun e w' ⟨h1, h2⟩ => ⟨h1, h2 ▸ h⟩)
  have H2 := Lib.hid (show ∀ W, D W → Calls Tryd.prog 21 #[.pointer (some ⟨p2, 0, none⟩)] W fun e w' => e = .returned (errV (doneB s2)) ∧ D w' from fun W h => (rdone_any _ _ p2 s2 (HD.out W h).r2).mono fun e w' ⟨h1, h2⟩ => ⟨h1, h2 ▸ h⟩)
  have H3 := Lib.hid (show ∀ c : Nat, ∀ W, D W → Calls Tryd.prog 20 #[errV c] W fun e w' => e = .returned (.int .i64 (c : Int)) ∧ D w' from fun c W h => (num_err c _ (ErrCell.stay0 HG.out (HD.out W h).st)).mono fun e w' ⟨h1, h2⟩ => ⟨h1, HDm.out _ ((HD.out W h).stay0 h2)⟩)
  have H4 := Lib.hid (show ∀ W, D W → Calls Tryd.prog 22 #[.agg #[.slice a5 s1.b.length c5, .int .i64 (s1.err : Int)]] W fun e w' => e = .returned (.int .i64 (doneB s1 : Nat)) ∧ D w' from fun W h => (rdone_agg s1 _ _ (HD.out W h).l1).mono fun e w' ⟨h1, h2⟩ => ⟨h1, HDm.out _ ((HD.out W h).stay0 h2)⟩)
  have H5 := Lib.hid (show ∀ W, D W → Calls Tryd.prog 22 #[.agg #[.slice a6 s2.b.length c6, .int .i64 (s2.err : Int)]] W fun e w' => e = .returned (.int .i64 (doneB s2 : Nat)) ∧ D w' from fun W h => (rdone_agg s2 _ _ (HD.out W h).l2).mono fun e w' ⟨h1, h2⟩ => ⟨h1, HDm.out _ ((HD.out W h).stay0 h2)⟩)
  have H6 := Lib.hid (show ∀ W, D W → Calls Tryd.prog 25 #[] W fun e w' => e = .returned (.bool true) ∧ D w' from fun W h => (sure_any W).mono fun e w' ⟨h1, h2⟩ => ⟨h1, HDm.out _ ((HD.out W h).stay0 h2)⟩)
  haveI : Nonempty (InC D) := ⟨⟨_, HN.out⟩⟩
  refine wp_region_class D HN.out (by kernel_rfl) (by kernel_rfl) ?_
  repeat (go_big_quiet_step ((first
    | with_reducible exact calls_class H1.out
    | with_reducible exact calls_class H2.out
    | with_reducible exact calls_class (H3.out _)
    | with_reducible exact calls_class H4.out
    | with_reducible exact calls_class H5.out
    | with_reducible exact calls_class H6.out)))
  refine wpQuiet_nil ?_
  rintro W ⟨i, rfl⟩
  have hst := (HD.out _ i.h).st
  clear k1 k2 k3 k4
  generalize i.w = w9 at *
  go_wp2
  go_ret
  exact ⟨rfl, hst⟩

end Go.Proofs.YtgfkeoicdjcfpaaDoor.Pk
