/-
  The document's answer (chapter 2): Print.
-/
import Derived.Test.YtjaflioamjklfaaPkRefX
namespace Go.Proofs.Ytjaflioamjklfaa.Pk
open Go.RowKit
set_option maxRecDepth 100000

theorem refprint_any (w : World) (x : Value) (b pr : List UInt8) (hx : Slc w x b) (hp : pr.length = 32) (hlen : b.length + 32 ≤ 140737488355328) :
    Calls Try.prog 30 #[x, prtV pr] w fun e w' => ∃ v, e = .returned v ∧ Owns w.heap.size w' v (b ++ pr) ∧ Stay (fun _ => False) w w' := by
  obtain ⟨i0, hi, hz0, hz1, hz2⟩ := info_parts info5
  have HI := Lib.hid hi
  have HZ0 := Lib.hid hz0
  have HZ1 := Lib.hid hz1
  have HZ2 := Lib.hid hz2
  have hst0 : Stay (fun _ => False) w (w.alloc (.cells (cellsB pr).toArray 28)) := Stay.alloc _ _
  have hsl : Slc (w.alloc (.cells (cellsB pr).toArray 28)) (.slice (some ⟨w.heap.size, 0, none⟩) 32 32) pr := by
    have := slc_of_block (cap := 32) (b := pr) (heap_alloc_new w (.cells (cellsB pr).toArray 28)) (fun j v hv => by simpa using hv) (by omega) (by decide)
    rw [hp] at this
    exact this
  have HX := Lib.hid ((hx.stay0 hst0).stay0 Stay.drew)
  have HSL := Lib.hid (hsl.stay0 Stay.drew)
  have HST0 := Lib.hid hst0
  clear hi hz0 hz1 hz2 hsl hst0
  unfold prtV
  go_enter Try.func30, Try.ntmps30
  go_wp2_with fail
  refine wp_region_any (by kernel_rfl) ?_
  change wpAny _ _ _ _ _ _ _ (World.drew _)
  refine wpAny_take (i := 0) (v := ?_) rfl (by kernel_rfl) (by kernel_rfl) (by kernel_rfl) (fun _ _ _ h => h) (Or.inl ⟨by rfl, ?_⟩) ?_
  rotate_left
  · intro w
    go_simp
    with_reducible rfl
  refine wpAny_take (i := 2) (v := ?_) rfl (by kernel_rfl) (by kernel_rfl) (by kernel_rfl) (fun _ _ _ h => h) (Or.inl ⟨by rfl, ?_⟩) ?_
  rotate_left
  · intro w
    go_simp
    with_reducible rfl
  refine wpAny_ready (rs := [1]) (by kernel_rfl) (by simp) (AllReady.cons rfl (fun K hK => ?_) AllReady.nil)
  go_simp
  go_wp2_with (go_at_call 49; refine (own_any _ x b HX.out (by omega)).mono ?_; rintro e w2 ⟨v2, rfl, how, hst2⟩; obtain ⟨a2, c2, rfl⟩ := how.form; have HO := Lib.hid how; have HST2 := Lib.hid hst2; clear how hst2)
  refine wpAny_ready (rs := [3]) (by kernel_rfl) (by simp) (AllReady.cons rfl (fun K hK => ?_) AllReady.nil)
  have hz2 := HST2.out.size
  refine step_append_slc rfl (.tmp 6) (.tmp 7) 25 rfl w.heap.size i0 Try.underlying25 HI.out HZ0.out HZ1.out HZ2.out (.slice a2 b.length c2) (.slice (some ⟨w.heap.size, 0, none⟩) 32 32) b pr rfl rfl (HO.out.base (fun k e => by have := (HO.out.lt k e).1; simp at this; omega)) (HSL.out.stay0 HST2.out) (by omega) (by simp at hz2; omega) ?_
  intro v3 w3 hown3 hgr3 hnn3
  have HO3 := Lib.hid hown3
  have HG3 := Lib.hid hgr3
  clear hown3 hgr3 hnn3
  refine hK _ _ ?_
  clear hK K
  refine wpAny_ready (rs := [4]) (by kernel_rfl) (by simp) (AllReady.cons rfl (fun K hK => ?_) AllReady.nil)
  go_simp
  refine hK _ _ ?_
  clear hK K
  refine wpAny_done (by kernel_rfl) ?_ _
  go_wp2
  go_ret
  refine ⟨v3, rfl, HO3.out, stay_seal (X := fun k => w.heap.size ≤ k) ((((HST0.out.trans Stay.drew).trans HST2.out).mono (fun _ x => x.elim)).trans (Stay.grown (X := fun k => w.heap.size ≤ k) HG3.out (fun k hk => by have := (HO.out.lt k hk).1; simp at this; omega))) (fun k hk => hk)⟩

end Go.Proofs.Ytjaflioamjklfaa.Pk
