/-
  KeccakSums, walked.
-/
import Derived.Test.YtdfklhlkefamlaaDoorKeY
import Derived.Test.YtdfklhlkefamlaaDoorKeW
namespace Go.Proofs.YtdfklhlkefamlaaDoor.Ke
open Go.RowKit
set_option maxRecDepth 100000

/-- A whole array or struct loaded, as a step of a region in the class D, behind a guard that holds. -/
theorem quiet_loadG {P : Program} {D : World → Prop} {ops : Array Oper} {rest : List Oper} {o : Oper} {a : Act} {Q : Act → Prop} (hgd : Region.wanted o (yielded ops a.tmps) = true) (ty : TypeId) (x : Operand) (ho : o.op = .load ty x) (ad : Addr) (hx : a.eval x = .pointer (some ad)) (v : Value)
    (hl : ∀ i : InC D, (loadVar ty ad).run P i.w = .ok v i.w) (h : wpQuiet P ops (fun w' => ∃ i : InC D, w' = i.w) Q rest (a.put o.dst v)) : wpQuiet P ops (fun w' => ∃ i : InC D, w' = i.w) Q (o :: rest) a := by
  refine wpQuiet_step fun K hK => ?_
  rw [if_pos hgd]
  refine ⟨v, fun w' hw => ?_, hK _ h⟩
  obtain ⟨i, rfl⟩ := hw
  unfold Oper.quietAt execOp
  simp only [ho, hx, Instr.loadAt, Instr.sureAddr, Sem.run_bind, Sem.run_pure, Result.andThen_ok, hl i]
  exact ⟨rfl, rfl⟩

set_option maxHeartbeats 2000000 in
theorem sums_walk (w : World) (x : Value) (b : List UInt8) (hx : Slc w x b) (hp : PathAt w) (hg : 1 < w.heap.size) :
    Calls Tryd.prog 3 #[x] w fun e w' => e = .returned (.bool true) ∧ Stay (fun _ => False) w w' := by
  have HX := Lib.hid hx
  have HP := Lib.hid hp
  have HG := Lib.hid hg
  obtain ⟨a0, c0, rfl, _⟩ := id hx
  clear hx hp hg
  by_cases hlt : 3000 < b.length
  · have q0 : (3000 : Int) < (b.length : Int) := by omega
    clear hlt
    go_enter Tryd.func3, Tryd.ntmps3
    go_wp2_with fail
    refine (sure_any w HP.out HG.out).mono ?_
    rintro e w1 ⟨rfl, s1⟩
    go_wp2
    go_ret
    exact ⟨rfl, s1⟩
  · have q0 : ¬ (3000 : Int) < (b.length : Int) := by omega
    have HLN := Lib.hid (show b.length ≤ 1048576 by omega)
    clear hlt
    go_enter Tryd.func3, Tryd.ntmps3
    go_wp2_with fail
    refine (ksum_any w _ b HX.out HP.out HG.out).mono ?_
    rintro e w1 ⟨rfl, s1⟩
    have HS1 := Lib.hid s1
    have HN1 := Lib.hid (BAt.new w1 25 (List.replicate 32 0))
    clear s1
    go_wp2_with (first
      | (with_reducible refine arr_32.alloc rfl rfl ?_)
      | (refine arr_32.store rfl (.tmp 3) (.tmp 9) rfl w1.heap.size rfl (List.replicate 32 0) (sumK b) rfl (by simp) (length_sumK b) HN1.out ?_
         intro w2 h2 s2
         have HB := Lib.hid h2
         have HST := Lib.hid (HS1.out.trans (stay_seal (X := fun k => k = w1.heap.size) ((Stay.alloc _ _).trans s2) (fun k e => Nat.le_of_eq e.symm)))
         clear h2 s2))
    have HL := Lib.hid (length_sumK b)
    generalize hh : sumK b = h at HB HL ⊢
    have HH := Lib.hid hh
    clear hh
    obtain ⟨D, hDd⟩ : ∃ D : World → Prop, D = Stay (fun _ => False) w2 := ⟨_, rfl⟩
    have HD := Lib.hid (show ∀ W, D W → Stay (fun _ => False) w2 W by intro W h; rw [hDd] at h; exact h)
    have HDm := Lib.hid (show ∀ W, Stay (fun _ => False) w2 W → D W by intro W h; rw [hDd]; exact h)
    clear hDd
    have HN0 := Lib.hid (HDm.out w2.drew Stay.drew)
    have k1 := Lib.hid (fun i : InC D => arr_32.run_load HL.out (HB.out.stay (HD.out _ i.h) (fun x => x)))
    have k2 := fun i : InC D => eq_prt i.w h h HL.out HL.out
    rw [show (h == h) = true by simp] at k2
    have H0 := Lib.hid (show ∀ W, D W → Calls Tryd.prog 10 #[.slice a0 b.length c0] W fun e w' => e = .returned (arrV h) ∧ D w' from fun W hW => (rsum_any W _ b (HX.out.stay0 (HST.out.trans (HD.out W hW))) HLN.out).mono fun e w' ⟨h1, h2⟩ => ⟨by rw [h1, HH.out], HDm.out _ ((HD.out W hW).trans h2)⟩)
    have H1 := Lib.hid (show ∀ W, D W → Calls Tryd.prog 11 #[arrV h] W fun e w' => e = .returned (strV (textK h)) ∧ D w' from fun W hW => (text_any W h HL.out).mono fun e w' ⟨h1, h2⟩ => ⟨h1, HDm.out _ ((HD.out W hW).trans h2)⟩)
    have H2 := Lib.hid (show ∀ W, D W → Calls Tryd.prog 12 #[arrV h] W fun e w' => e = .returned (strV (textK h)) ∧ D w' from fun W hW => (rtext_any W h HL.out).mono fun e w' ⟨h1, h2⟩ => ⟨h1, HDm.out _ ((HD.out W hW).trans h2)⟩)
    have H3 := Lib.hid (show ∀ W, D W → Calls Tryd.prog 8 #[] W fun e w' => e = .returned (.bool true) ∧ D w' from fun W hW => (sure_any W (HP.out.stay (HST.out.trans (HD.out W hW)) (fun x => x)) (by have := HG.out; have := (HST.out.trans (HD.out W hW)).size; omega)).mono fun e w' ⟨h1, h2⟩ => ⟨h1, HDm.out _ ((HD.out W hW).trans h2)⟩)
    unfold strV at H1 H2
    unfold arrV at H0 H1 H2 k1 k2
    haveI : Nonempty (InC D) := ⟨⟨_, HN0.out⟩⟩
    refine wp_region_class D HN0.out (by kernel_rfl) (by kernel_rfl) ?_
    refine quiet_load rfl 25 (.tmp 3) rfl ⟨w1.heap.size, 0, none⟩ rfl (.agg (cellsB h).toArray) k1.out ?_
    go_frame
    iterate 4 (go_big_quiet_step ((first
      | with_reducible exact calls_class H0.out
      | with_reducible exact calls_class H1.out
      | with_reducible exact calls_class H2.out
      | with_reducible exact calls_class H3.out)))
    refine quiet_loadG (by rfl) 25 (.tmp 3) rfl ⟨w1.heap.size, 0, none⟩ rfl (.agg (cellsB h).toArray) k1.out ?_
    go_frame
    go_big_quiet_step ((first
      | with_reducible exact calls_class H0.out
      | with_reducible exact calls_class H1.out
      | with_reducible exact calls_class H2.out
      | with_reducible exact calls_class H3.out))
    refine quiet_loadG (by rfl) 25 (.tmp 3) rfl ⟨w1.heap.size, 0, none⟩ rfl (.agg (cellsB h).toArray) k1.out ?_
    go_frame
    repeat (go_big_quiet_step ((first
      | with_reducible exact calls_class H0.out
      | with_reducible exact calls_class H1.out
      | with_reducible exact calls_class H2.out
      | with_reducible exact calls_class H3.out)))
    refine wpQuiet_nil ?_
    rintro W ⟨i, rfl⟩
    have hst := HD.out _ i.h
    clear k1 k2
    generalize i.w = w9 at *
    go_wp2
    go_ret
    exact ⟨rfl, HST.out.trans hst⟩
end Go.Proofs.YtdfklhlkefamlaaDoor.Ke
