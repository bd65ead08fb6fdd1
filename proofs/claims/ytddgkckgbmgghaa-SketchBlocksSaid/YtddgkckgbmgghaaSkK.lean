/-
  sketch's laws: SketchBlocks, walked.
-/
import Derived.Test.YtddgkckgbmgghaaSkI
namespace Go.Proofs.Ytddgkckgbmgghaa.Sk
open Go.RowKit Hn
set_option maxRecDepth 100000

theorem run_five (w : World) (g : Nat) : (Instr.sliceAt 23 (.pointer (some ⟨g, 0, none⟩)) none (some (.int .i64 5)) none).run Try.prog w = .ok (.slice (some ⟨g, 0, none⟩) 5 64) w := by
  rw [run_sliceAt_array_h w 23 ⟨g, 0, none⟩ under_64 .i64 5 (by omega) (by rw [len_64]; omega), size_64, len_64]
  simp only [Result.andThen, slicedAt]
  rw [if_neg (by omega), add_at]
  rfl
set_option maxHeartbeats 4000000 in
theorem blocks_walk (w : World) (a b : List UInt8) (z : Int) (ha : a.length = 64) (hb : b.length = 64) :
    Calls Try.prog 3 #[arrV a, arrV b, .int .i64 z] w fun e w' => e = .returned (.bool true) ∧ Stay (fun _ => False) w w' := by
  have h0 := BAt.new w 23 a
  have h1 := BAt.new (w.alloc (.cells (cellsB a).toArray 23)) 23 b
  rw [show (w.alloc (.cells (cellsB a).toArray 23)).heap.size = w.heap.size + 1 by simp] at h1
  have h0' := h0.stay0 (Stay.alloc _ (.cells (cellsB b).toArray 23))
  have hs := (Stay.alloc (X := fun _ => False) w (.cells (cellsB a).toArray 23)).trans (Stay.alloc (X := fun _ => False) _ (.cells (cellsB b).toArray 23))
  obtain ⟨w1, hw1⟩ : ∃ w1, (w.alloc (.cells (cellsB a).toArray 23)).alloc (.cells (cellsB b).toArray 23) = w1 := ⟨_, rfl⟩
  rw [hw1] at h1 h0' hs
  have W1 := Lib.hid hw1
  have H0 := Lib.hid h0'
  have H1 := Lib.hid h1
  have HS := Lib.hid hs
  have HA := Lib.hid ha
  have HB := Lib.hid hb
  clear h0 h1 h0' hs hw1 ha hb
  unfold arrV
  go_enter Try.func3, Try.ntmps3
  go_wp2_with (first
    | (rw [W1.out]
       refine Code.wp_mono (Q := fun e a' W => ∃ gx gy, e = .normal ∧ a' = { tmps := #[.agg (cellsB a).toArray, .agg (cellsB b).toArray, .int .i64 z, .pointer (some ⟨w.heap.size, 0, none⟩), .pointer (some ⟨w.heap.size + 1, 0, none⟩), undef, .bool false, .pointer (some ⟨gx, 0, none⟩), .pointer (some ⟨gy, 0, none⟩), arrV a, skV (skN a), arrV b, skV (skN b), undef, undef, undef, undef, undef, undef, undef, undef, undef, undef, undef, undef, undef, undef, undef, undef, undef, undef, undef, undef, undef, undef, undef, undef, undef, undef, undef], defers := [] } ∧ QAt W gx 25 (skN a) ∧ QAt W gy 25 (skN b) ∧ Stay (fun _ => False) w1 W) ?next ?region))
  case region =>
    clear W1
    refine wp_region_held (S := Stay (fun _ => False) w1) (by kernel_rfl) ?_
    change wpAnyH _ _ _ _ _ _ _ _ (World.drew _)
    have hst : Stay (fun _ => False) w1 w1.drew := Stay.drew
    refine wpAnyH_takeL (i := 0) #[true, false, false, false, false, false, false, false] rfl (by kernel_rfl) (by kernel_rfl) (by kernel_rfl) (fun _ _ _ h => by obtain ⟨_, _, h, _⟩ := h; cases h) (by kernel_rfl) hst (yieldsIf_load rfl 23 (.tmp 3) rfl ⟨w.heap.size, 0, none⟩ rfl _ (fun W hW => arr_64.run_load HA.out (H0.out.stay0 hW))) ?_
    conv => arg 8; simp [Act.put]
    refine wpAnyH_takeL (i := 2) #[true, false, true, false, false, false, false, false] rfl (by kernel_rfl) (by kernel_rfl) (by kernel_rfl) (fun _ _ _ h => by obtain ⟨_, _, h, _⟩ := h; cases h) (by kernel_rfl) hst (yieldsIf_load rfl 23 (.tmp 4) rfl ⟨w.heap.size + 1, 0, none⟩ rfl _ (fun W hW => arr_64.run_load HB.out (H1.out.stay0 hW))) ?_
    conv => arg 8; simp [Act.put]
    refine wpAnyH_ready (rs := [1, 4, 5]) (by kernel_rfl) (by simp) ?_
    refine AllReadyH.cons (o := _) rfl (fun K hK => ?_) ?_
    · go_simp
      go_wp2_with (go_at_call 8; refine (rof_any a _ HA.out).mono ?_; rintro e w2 ⟨rfl, s⟩)
      replace hst := hst.trans s
      clear s
      refine Shut.out hK _ _ hst (fun _ => ?_)
      clear hK
      refine wpAnyH_listedL #[true, true, true, false, false, false, false, false] (by kernel_rfl) ?_
      conv => arg 8; simp [Act.put]
      refine wpAnyH_ready (rs := [3, 4, 5]) (by kernel_rfl) (by simp) ?_
      refine AllReadyH.cons (o := _) rfl (fun K hK => ?_) ?_
      · go_simp
        go_wp2_with (go_at_call 8; refine (rof_any b _ HB.out).mono ?_; rintro e w3 ⟨rfl, s⟩)
        replace hst := hst.trans s
        clear s
        refine Shut.out hK _ _ hst (fun _ => ?_)
        clear hK
        refine wpAnyH_listedL #[true, true, true, true, false, false, false, false] (by kernel_rfl) ?_
        conv => arg 8; simp [Act.put]
        refine wpAnyH_ready (rs := [4, 5]) (by kernel_rfl) (by simp) ?_
        refine AllReadyH.cons (o := _) rfl (fun K hK => ?_) ?_
        · refine step_alloc_z rfl 25 rfl _ (q_arr.zero _) ?_
          have hx := QAt.new w3 25 (fun _ => 0)
          have hsz := hst.size
          have s : Stay (fun _ => False) w3 (w3.alloc (.cells (qC (fun _ => 0)).toArray 25)) := Stay.alloc _ _
          change K _ (w3.alloc (.cells (qC (fun _ => 0)).toArray 25))
          generalize w3.alloc (.cells (qC (fun _ => 0)).toArray 25) = w4 at hx s ⊢
          obtain ⟨gx, hgx⟩ : ∃ g, g = w3.heap.size := ⟨_, rfl⟩
          rw [← hgx] at hx ⊢
          have hbgx : w1.heap.size ≤ gx := by omega
          clear hgx hsz
          replace hst := hst.trans s
          clear s
          refine Shut.out hK _ _ hst (fun _ => ?_)
          clear hK
          refine wpAnyH_listedL #[true, true, true, true, true, false, false, false] (by kernel_rfl) ?_
          conv => arg 8; simp [Act.put]
          refine wpAnyH_ready (rs := [5]) (by kernel_rfl) (by simp) ?_
          refine AllReadyH.cons (o := _) rfl (fun K hK => ?_) ?_
          · refine step_alloc_z rfl 25 rfl _ (q_arr.zero _) ?_
            have hy := QAt.new w4 25 (fun _ => 0)
            have hlt := hx.lt
            have hsz := hst.size
            have s : Stay (fun _ => False) w4 (w4.alloc (.cells (qC (fun _ => 0)).toArray 25)) := Stay.alloc _ _
            change K _ (w4.alloc (.cells (qC (fun _ => 0)).toArray 25))
            generalize w4.alloc (.cells (qC (fun _ => 0)).toArray 25) = w5 at hy s ⊢
            obtain ⟨gy, hgy⟩ : ∃ g, g = w4.heap.size := ⟨_, rfl⟩
            rw [← hgy] at hy ⊢
            have hne : gx ≠ gy := by omega
            clear hlt
            have hbgy : w1.heap.size ≤ gy := by omega
            clear hgy hsz
            replace hx := hx.stay0 s
            replace hst := hst.trans s
            clear s
            refine Shut.out hK _ _ hst (fun _ => ?_)
            clear hK
            refine wpAnyH_listedL #[true, true, true, true, true, true, false, false] (by kernel_rfl) ?_
            conv => arg 8; simp [Act.put]
            refine wpAnyH_one #[true, true, true, true, true, true, true, false] (i := 6) rfl (by kernel_rfl) (by kernel_rfl) (fun K hK => ?_)
            refine step_store_q q_arr rfl (.tmp 7) (.tmp 10) rfl gx rfl _ (skN a) rfl hx ?_
            intro wz hz s
            replace hy := hy.stay s (fun e => hne e.symm)
            replace hst : Stay (fun _ => False) w1 wz := stay_seal (X := fun k => k = gx) ((hst.mono (fun _ x => x.elim)).trans s) (fun k e => by have e' : k = gx := e; omega)
            clear s hx
            have hx := hz
            clear hz
            refine hK _ _ hst ?_
            clear hK
            conv => arg 8; simp [Act.put]
            refine wpAnyH_one #[true, true, true, true, true, true, true, true] (i := 7) rfl (by kernel_rfl) (by kernel_rfl) (fun K hK => ?_)
            refine step_store_q q_arr rfl (.tmp 8) (.tmp 12) rfl gy rfl _ (skN b) rfl hy ?_
            intro wz hz s
            replace hx := hx.stay s (fun e => hne e)
            replace hst : Stay (fun _ => False) w1 wz := stay_seal (X := fun k => k = gy) ((hst.mono (fun _ x => x.elim)).trans s) (fun k e => by have e' : k = gy := e; omega)
            clear s hy
            have hy := hz
            clear hz
            refine hK _ _ hst ?_
            clear hK
            conv => arg 8; simp [Act.put]
            refine wpAnyH_done (by kernel_rfl) ?_ _
            exact ⟨gx, gy, rfl, rfl, hx, hy, hst⟩
          exact AllReadyH.nil
        refine AllReadyH.cons (o := _) rfl (fun K hK => ?_) ?_
        · refine step_alloc_z rfl 25 rfl _ (q_arr.zero _) ?_
          have hy := QAt.new w3 25 (fun _ => 0)
          have hsz := hst.size
          have s : Stay (fun _ => False) w3 (w3.alloc (.cells (qC (fun _ => 0)).toArray 25)) := Stay.alloc _ _
          change K _ (w3.alloc (.cells (qC (fun _ => 0)).toArray 25))
          generalize w3.alloc (.cells (qC (fun _ => 0)).toArray 25) = w4 at hy s ⊢
          obtain ⟨gy, hgy⟩ : ∃ g, g = w3.heap.size := ⟨_, rfl⟩
          rw [← hgy] at hy ⊢
          have hbgy : w1.heap.size ≤ gy := by omega
          clear hgy hsz
          replace hst := hst.trans s
          clear s
          refine Shut.out hK _ _ hst (fun _ => ?_)
          clear hK
          refine wpAnyH_listedL #[true, true, true, true, false, true, false, false] (by kernel_rfl) ?_
          conv => arg 8; simp [Act.put]
          refine wpAnyH_ready (rs := [4]) (by kernel_rfl) (by simp) ?_
          refine AllReadyH.cons (o := _) rfl (fun K hK => ?_) ?_
          · refine step_alloc_z rfl 25 rfl _ (q_arr.zero _) ?_
            have hx := QAt.new w4 25 (fun _ => 0)
            have hlt := hy.lt
            have hsz := hst.size
            have s : Stay (fun _ => False) w4 (w4.alloc (.cells (qC (fun _ => 0)).toArray 25)) := Stay.alloc _ _
            change K _ (w4.alloc (.cells (qC (fun _ => 0)).toArray 25))
            generalize w4.alloc (.cells (qC (fun _ => 0)).toArray 25) = w5 at hx s ⊢
            obtain ⟨gx, hgx⟩ : ∃ g, g = w4.heap.size := ⟨_, rfl⟩
            rw [← hgx] at hx ⊢
            have hne : gx ≠ gy := by omega
            clear hlt
            have hbgx : w1.heap.size ≤ gx := by omega
            clear hgx hsz
            replace hy := hy.stay0 s
            replace hst := hst.trans s
            clear s
            refine Shut.out hK _ _ hst (fun _ => ?_)
            clear hK
            refine wpAnyH_listedL #[true, true, true, true, true, true, false, false] (by kernel_rfl) ?_
            conv => arg 8; simp [Act.put]
            refine wpAnyH_one #[true, true, true, true, true, true, true, false] (i := 6) rfl (by kernel_rfl) (by kernel_rfl) (fun K hK => ?_)
            refine step_store_q q_arr rfl (.tmp 7) (.tmp 10) rfl gx rfl _ (skN a) rfl hx ?_
            intro wz hz s
            replace hy := hy.stay s (fun e => hne e.symm)
            replace hst : Stay (fun _ => False) w1 wz := stay_seal (X := fun k => k = gx) ((hst.mono (fun _ x => x.elim)).trans s) (fun k e => by have e' : k = gx := e; omega)
            clear s hx
            have hx := hz
            clear hz
            refine hK _ _ hst ?_
            clear hK
            conv => arg 8; simp [Act.put]
            refine wpAnyH_one #[true, true, true, true, true, true, true, true] (i := 7) rfl (by kernel_rfl) (by kernel_rfl) (fun K hK => ?_)
            refine step_store_q q_arr rfl (.tmp 8) (.tmp 12) rfl gy rfl _ (skN b) rfl hy ?_
            intro wz hz s
            replace hx := hx.stay s (fun e => hne e)
            replace hst : Stay (fun _ => False) w1 wz := stay_seal (X := fun k => k = gy) ((hst.mono (fun _ x => x.elim)).trans s) (fun k e => by have e' : k = gy := e; omega)
            clear s hy
            have hy := hz
            clear hz
            refine hK _ _ hst ?_
            clear hK
            conv => arg 8; simp [Act.put]
            refine wpAnyH_done (by kernel_rfl) ?_ _
            exact ⟨gx, gy, rfl, rfl, hx, hy, hst⟩
          exact AllReadyH.nil
        exact AllReadyH.nil
      refine AllReadyH.cons (o := _) rfl (fun K hK => ?_) ?_
      · refine step_alloc_z rfl 25 rfl _ (q_arr.zero _) ?_
        have hx := QAt.new w2 25 (fun _ => 0)
        have hsz := hst.size
        have s : Stay (fun _ => False) w2 (w2.alloc (.cells (qC (fun _ => 0)).toArray 25)) := Stay.alloc _ _
        change K _ (w2.alloc (.cells (qC (fun _ => 0)).toArray 25))
        generalize w2.alloc (.cells (qC (fun _ => 0)).toArray 25) = w3 at hx s ⊢
        obtain ⟨gx, hgx⟩ : ∃ g, g = w2.heap.size := ⟨_, rfl⟩
        rw [← hgx] at hx ⊢
        have hbgx : w1.heap.size ≤ gx := by omega
        clear hgx hsz
        replace hst := hst.trans s
        clear s
        refine Shut.out hK _ _ hst (fun _ => ?_)
        clear hK
        refine wpAnyH_listedL #[true, true, true, false, true, false, false, false] (by kernel_rfl) ?_
        conv => arg 8; simp [Act.put]
        refine wpAnyH_ready (rs := [3, 5]) (by kernel_rfl) (by simp) ?_
        refine AllReadyH.cons (o := _) rfl (fun K hK => ?_) ?_
        · go_simp
          go_wp2_with (go_at_call 8; refine (rof_any b _ HB.out).mono ?_; rintro e w4 ⟨rfl, s⟩)
          replace hx := hx.stay0 s
          replace hst := hst.trans s
          clear s
          refine Shut.out hK _ _ hst (fun _ => ?_)
          clear hK
          refine wpAnyH_listedL #[true, true, true, true, true, false, false, false] (by kernel_rfl) ?_
          conv => arg 8; simp [Act.put]
          refine wpAnyH_ready (rs := [5]) (by kernel_rfl) (by simp) ?_
          refine AllReadyH.cons (o := _) rfl (fun K hK => ?_) ?_
          · refine step_alloc_z rfl 25 rfl _ (q_arr.zero _) ?_
            have hy := QAt.new w4 25 (fun _ => 0)
            have hlt := hx.lt
            have hsz := hst.size
            have s : Stay (fun _ => False) w4 (w4.alloc (.cells (qC (fun _ => 0)).toArray 25)) := Stay.alloc _ _
            change K _ (w4.alloc (.cells (qC (fun _ => 0)).toArray 25))
            generalize w4.alloc (.cells (qC (fun _ => 0)).toArray 25) = w5 at hy s ⊢
            obtain ⟨gy, hgy⟩ : ∃ g, g = w4.heap.size := ⟨_, rfl⟩
            rw [← hgy] at hy ⊢
            have hne : gx ≠ gy := by omega
            clear hlt
            have hbgy : w1.heap.size ≤ gy := by omega
            clear hgy hsz
            replace hx := hx.stay0 s
            replace hst := hst.trans s
            clear s
            refine Shut.out hK _ _ hst (fun _ => ?_)
            clear hK
            refine wpAnyH_listedL #[true, true, true, true, true, true, false, false] (by kernel_rfl) ?_
            conv => arg 8; simp [Act.put]
            refine wpAnyH_one #[true, true, true, true, true, true, true, false] (i := 6) rfl (by kernel_rfl) (by kernel_rfl) (fun K hK => ?_)
            refine step_store_q q_arr rfl (.tmp 7) (.tmp 10) rfl gx rfl _ (skN a) rfl hx ?_
            intro wz hz s
            replace hy := hy.stay s (fun e => hne e.symm)
            replace hst : Stay (fun _ => False) w1 wz := stay_seal (X := fun k => k = gx) ((hst.mono (fun _ x => x.elim)).trans s) (fun k e => by have e' : k = gx := e; omega)
            clear s hx
            have hx := hz
            clear hz
            refine hK _ _ hst ?_
            clear hK
            conv => arg 8; simp [Act.put]
            refine wpAnyH_one #[true, true, true, true, true, true, true, true] (i := 7) rfl (by kernel_rfl) (by kernel_rfl) (fun K hK => ?_)
            refine step_store_q q_arr rfl (.tmp 8) (.tmp 12) rfl gy rfl _ (skN b) rfl hy ?_
            intro wz hz s
            replace hx := hx.stay s (fun e => hne e)
            replace hst : Stay (fun _ => False) w1 wz := stay_seal (X := fun k => k = gy) ((hst.mono (fun _ x => x.elim)).trans s) (fun k e => by have e' : k = gy := e; omega)
            clear s hy
            have hy := hz
            clear hz
            refine hK _ _ hst ?_
            clear hK
            conv => arg 8; simp [Act.put]
            refine wpAnyH_done (by kernel_rfl) ?_ _
            exact ⟨gx, gy, rfl, rfl, hx, hy, hst⟩
          exact AllReadyH.nil
        refine AllReadyH.cons (o := _) rfl (fun K hK => ?_) ?_
        · refine step_alloc_z rfl 25 rfl _ (q_arr.zero _) ?_
          have hy := QAt.new w3 25 (fun _ => 0)
          have hlt := hx.lt
          have hsz := hst.size
          have s : Stay (fun _ => False) w3 (w3.alloc (.cells (qC (fun _ => 0)).toArray 25)) := Stay.alloc _ _
          change K _ (w3.alloc (.cells (qC (fun _ => 0)).toArray 25))
          generalize w3.alloc (.cells (qC (fun _ => 0)).toArray 25) = w4 at hy s ⊢
          obtain ⟨gy, hgy⟩ : ∃ g, g = w3.heap.size := ⟨_, rfl⟩
          rw [← hgy] at hy ⊢
          have hne : gx ≠ gy := by omega
          clear hlt
          have hbgy : w1.heap.size ≤ gy := by omega
          clear hgy hsz
          replace hx := hx.stay0 s
          replace hst := hst.trans s
          clear s
          refine Shut.out hK _ _ hst (fun _ => ?_)
          clear hK
          refine wpAnyH_listedL #[true, true, true, false, true, true, false, false] (by kernel_rfl) ?_
          conv => arg 8; simp [Act.put]
          refine wpAnyH_ready (rs := [3]) (by kernel_rfl) (by simp) ?_
          refine AllReadyH.cons (o := _) rfl (fun K hK => ?_) ?_
          · go_simp
            go_wp2_with (go_at_call 8; refine (rof_any b _ HB.out).mono ?_; rintro e w5 ⟨rfl, s⟩)
            replace hx := hx.stay0 s
            replace hy := hy.stay0 s
            replace hst := hst.trans s
            clear s
            refine Shut.out hK _ _ hst (fun _ => ?_)
            clear hK
            refine wpAnyH_listedL #[true, true, true, true, true, true, false, false] (by kernel_rfl) ?_
            conv => arg 8; simp [Act.put]
            refine wpAnyH_one #[true, true, true, true, true, true, true, false] (i := 6) rfl (by kernel_rfl) (by kernel_rfl) (fun K hK => ?_)
            refine step_store_q q_arr rfl (.tmp 7) (.tmp 10) rfl gx rfl _ (skN a) rfl hx ?_
            intro wz hz s
            replace hy := hy.stay s (fun e => hne e.symm)
            replace hst : Stay (fun _ => False) w1 wz := stay_seal (X := fun k => k = gx) ((hst.mono (fun _ x => x.elim)).trans s) (fun k e => by have e' : k = gx := e; omega)
            clear s hx
            have hx := hz
            clear hz
            refine hK _ _ hst ?_
            clear hK
            conv => arg 8; simp [Act.put]
            refine wpAnyH_one #[true, true, true, true, true, true, true, true] (i := 7) rfl (by kernel_rfl) (by kernel_rfl) (fun K hK => ?_)
            refine step_store_q q_arr rfl (.tmp 8) (.tmp 12) rfl gy rfl _ (skN b) rfl hy ?_
            intro wz hz s
            replace hx := hx.stay s (fun e => hne e)
            replace hst : Stay (fun _ => False) w1 wz := stay_seal (X := fun k => k = gy) ((hst.mono (fun _ x => x.elim)).trans s) (fun k e => by have e' : k = gy := e; omega)
            clear s hy
            have hy := hz
            clear hz
            refine hK _ _ hst ?_
            clear hK
            conv => arg 8; simp [Act.put]
            refine wpAnyH_done (by kernel_rfl) ?_ _
            exact ⟨gx, gy, rfl, rfl, hx, hy, hst⟩
          exact AllReadyH.nil
        exact AllReadyH.nil
      refine AllReadyH.cons (o := _) rfl (fun K hK => ?_) ?_
      · refine step_alloc_z rfl 25 rfl _ (q_arr.zero _) ?_
        have hy := QAt.new w2 25 (fun _ => 0)
        have hsz := hst.size
        have s : Stay (fun _ => False) w2 (w2.alloc (.cells (qC (fun _ => 0)).toArray 25)) := Stay.alloc _ _
        change K _ (w2.alloc (.cells (qC (fun _ => 0)).toArray 25))
        generalize w2.alloc (.cells (qC (fun _ => 0)).toArray 25) = w3 at hy s ⊢
        obtain ⟨gy, hgy⟩ : ∃ g, g = w2.heap.size := ⟨_, rfl⟩
        rw [← hgy] at hy ⊢
        have hbgy : w1.heap.size ≤ gy := by omega
        clear hgy hsz
        replace hst := hst.trans s
        clear s
        refine Shut.out hK _ _ hst (fun _ => ?_)
        clear hK
        refine wpAnyH_listedL #[true, true, true, false, false, true, false, false] (by kernel_rfl) ?_
        conv => arg 8; simp [Act.put]
        refine wpAnyH_ready (rs := [3, 4]) (by kernel_rfl) (by simp) ?_
        refine AllReadyH.cons (o := _) rfl (fun K hK => ?_) ?_
        · go_simp
          go_wp2_with (go_at_call 8; refine (rof_any b _ HB.out).mono ?_; rintro e w4 ⟨rfl, s⟩)
          replace hy := hy.stay0 s
          replace hst := hst.trans s
          clear s
          refine Shut.out hK _ _ hst (fun _ => ?_)
          clear hK
          refine wpAnyH_listedL #[true, true, true, true, false, true, false, false] (by kernel_rfl) ?_
          conv => arg 8; simp [Act.put]
          refine wpAnyH_ready (rs := [4]) (by kernel_rfl) (by simp) ?_
          refine AllReadyH.cons (o := _) rfl (fun K hK => ?_) ?_
          · refine step_alloc_z rfl 25 rfl _ (q_arr.zero _) ?_
            have hx := QAt.new w4 25 (fun _ => 0)
            have hlt := hy.lt
            have hsz := hst.size
            have s : Stay (fun _ => False) w4 (w4.alloc (.cells (qC (fun _ => 0)).toArray 25)) := Stay.alloc _ _
            change K _ (w4.alloc (.cells (qC (fun _ => 0)).toArray 25))
            generalize w4.alloc (.cells (qC (fun _ => 0)).toArray 25) = w5 at hx s ⊢
            obtain ⟨gx, hgx⟩ : ∃ g, g = w4.heap.size := ⟨_, rfl⟩
            rw [← hgx] at hx ⊢
            have hne : gx ≠ gy := by omega
            clear hlt
            have hbgx : w1.heap.size ≤ gx := by omega
            clear hgx hsz
            replace hy := hy.stay0 s
            replace hst := hst.trans s
            clear s
            refine Shut.out hK _ _ hst (fun _ => ?_)
            clear hK
            refine wpAnyH_listedL #[true, true, true, true, true, true, false, false] (by kernel_rfl) ?_
            conv => arg 8; simp [Act.put]
            refine wpAnyH_one #[true, true, true, true, true, true, true, false] (i := 6) rfl (by kernel_rfl) (by kernel_rfl) (fun K hK => ?_)
            refine step_store_q q_arr rfl (.tmp 7) (.tmp 10) rfl gx rfl _ (skN a) rfl hx ?_
            intro wz hz s
            replace hy := hy.stay s (fun e => hne e.symm)
            replace hst : Stay (fun _ => False) w1 wz := stay_seal (X := fun k => k = gx) ((hst.mono (fun _ x => x.elim)).trans s) (fun k e => by have e' : k = gx := e; omega)
            clear s hx
            have hx := hz
            clear hz
            refine hK _ _ hst ?_
            clear hK
            conv => arg 8; simp [Act.put]
            refine wpAnyH_one #[true, true, true, true, true, true, true, true] (i := 7) rfl (by kernel_rfl) (by kernel_rfl) (fun K hK => ?_)
            refine step_store_q q_arr rfl (.tmp 8) (.tmp 12) rfl gy rfl _ (skN b) rfl hy ?_
            intro wz hz s
            replace hx := hx.stay s (fun e => hne e)
            replace hst : Stay (fun _ => False) w1 wz := stay_seal (X := fun k => k = gy) ((hst.mono (fun _ x => x.elim)).trans s) (fun k e => by have e' : k = gy := e; omega)
            clear s hy
            have hy := hz
            clear hz
            refine hK _ _ hst ?_
            clear hK
            conv => arg 8; simp [Act.put]
            refine wpAnyH_done (by kernel_rfl) ?_ _
            exact ⟨gx, gy, rfl, rfl, hx, hy, hst⟩
          exact AllReadyH.nil
        refine AllReadyH.cons (o := _) rfl (fun K hK => ?_) ?_
        · refine step_alloc_z rfl 25 rfl _ (q_arr.zero _) ?_
          have hx := QAt.new w3 25 (fun _ => 0)
          have hlt := hy.lt
          have hsz := hst.size
          have s : Stay (fun _ => False) w3 (w3.alloc (.cells (qC (fun _ => 0)).toArray 25)) := Stay.alloc _ _
          change K _ (w3.alloc (.cells (qC (fun _ => 0)).toArray 25))
          generalize w3.alloc (.cells (qC (fun _ => 0)).toArray 25) = w4 at hx s ⊢
          obtain ⟨gx, hgx⟩ : ∃ g, g = w3.heap.size := ⟨_, rfl⟩
          rw [← hgx] at hx ⊢
          have hne : gx ≠ gy := by omega
          clear hlt
          have hbgx : w1.heap.size ≤ gx := by omega
          clear hgx hsz
          replace hy := hy.stay0 s
          replace hst := hst.trans s
          clear s
          refine Shut.out hK _ _ hst (fun _ => ?_)
          clear hK
          refine wpAnyH_listedL #[true, true, true, false, true, true, false, false] (by kernel_rfl) ?_
          conv => arg 8; simp [Act.put]
          refine wpAnyH_ready (rs := [3]) (by kernel_rfl) (by simp) ?_
          refine AllReadyH.cons (o := _) rfl (fun K hK => ?_) ?_
          · go_simp
            go_wp2_with (go_at_call 8; refine (rof_any b _ HB.out).mono ?_; rintro e w5 ⟨rfl, s⟩)
            replace hx := hx.stay0 s
            replace hy := hy.stay0 s
            replace hst := hst.trans s
            clear s
            refine Shut.out hK _ _ hst (fun _ => ?_)
            clear hK
            refine wpAnyH_listedL #[true, true, true, true, true, true, false, false] (by kernel_rfl) ?_
            conv => arg 8; simp [Act.put]
            refine wpAnyH_one #[true, true, true, true, true, true, true, false] (i := 6) rfl (by kernel_rfl) (by kernel_rfl) (fun K hK => ?_)
            refine step_store_q q_arr rfl (.tmp 7) (.tmp 10) rfl gx rfl _ (skN a) rfl hx ?_
            intro wz hz s
            replace hy := hy.stay s (fun e => hne e.symm)
            replace hst : Stay (fun _ => False) w1 wz := stay_seal (X := fun k => k = gx) ((hst.mono (fun _ x => x.elim)).trans s) (fun k e => by have e' : k = gx := e; omega)
            clear s hx
            have hx := hz
            clear hz
            refine hK _ _ hst ?_
            clear hK
            conv => arg 8; simp [Act.put]
            refine wpAnyH_one #[true, true, true, true, true, true, true, true] (i := 7) rfl (by kernel_rfl) (by kernel_rfl) (fun K hK => ?_)
            refine step_store_q q_arr rfl (.tmp 8) (.tmp 12) rfl gy rfl _ (skN b) rfl hy ?_
            intro wz hz s
            replace hx := hx.stay s (fun e => hne e)
            replace hst : Stay (fun _ => False) w1 wz := stay_seal (X := fun k => k = gy) ((hst.mono (fun _ x => x.elim)).trans s) (fun k e => by have e' : k = gy := e; omega)
            clear s hy
            have hy := hz
            clear hz
            refine hK _ _ hst ?_
            clear hK
            conv => arg 8; simp [Act.put]
            refine wpAnyH_done (by kernel_rfl) ?_ _
            exact ⟨gx, gy, rfl, rfl, hx, hy, hst⟩
          exact AllReadyH.nil
        exact AllReadyH.nil
      exact AllReadyH.nil
    refine AllReadyH.cons (o := _) rfl (fun K hK => ?_) ?_
    · refine step_alloc_z rfl 25 rfl _ (q_arr.zero _) ?_
      have hx := QAt.new w1.drew 25 (fun _ => 0)
      have hsz := hst.size
      have s : Stay (fun _ => False) w1.drew (w1.drew.alloc (.cells (qC (fun _ => 0)).toArray 25)) := Stay.alloc _ _
      change K _ (w1.drew.alloc (.cells (qC (fun _ => 0)).toArray 25))
      generalize w1.drew.alloc (.cells (qC (fun _ => 0)).toArray 25) = w2 at hx s ⊢
      obtain ⟨gx, hgx⟩ : ∃ g, g = w1.drew.heap.size := ⟨_, rfl⟩
      rw [← hgx] at hx ⊢
      have hbgx : w1.heap.size ≤ gx := by omega
      clear hgx hsz
      replace hst := hst.trans s
      clear s
      refine Shut.out hK _ _ hst (fun _ => ?_)
      clear hK
      refine wpAnyH_listedL #[true, false, true, false, true, false, false, false] (by kernel_rfl) ?_
      conv => arg 8; simp [Act.put]
      refine wpAnyH_ready (rs := [1, 5]) (by kernel_rfl) (by simp) ?_
      refine AllReadyH.cons (o := _) rfl (fun K hK => ?_) ?_
      · go_simp
        go_wp2_with (go_at_call 8; refine (rof_any a _ HA.out).mono ?_; rintro e w3 ⟨rfl, s⟩)
        replace hx := hx.stay0 s
        replace hst := hst.trans s
        clear s
        refine Shut.out hK _ _ hst (fun _ => ?_)
        clear hK
        refine wpAnyH_listedL #[true, true, true, false, true, false, false, false] (by kernel_rfl) ?_
        conv => arg 8; simp [Act.put]
        refine wpAnyH_ready (rs := [3, 5]) (by kernel_rfl) (by simp) ?_
        refine AllReadyH.cons (o := _) rfl (fun K hK => ?_) ?_
        · go_simp
          go_wp2_with (go_at_call 8; refine (rof_any b _ HB.out).mono ?_; rintro e w4 ⟨rfl, s⟩)
          replace hx := hx.stay0 s
          replace hst := hst.trans s
          clear s
          refine Shut.out hK _ _ hst (fun _ => ?_)
          clear hK
          refine wpAnyH_listedL #[true, true, true, true, true, false, false, false] (by kernel_rfl) ?_
          conv => arg 8; simp [Act.put]
          refine wpAnyH_ready (rs := [5]) (by kernel_rfl) (by simp) ?_
          refine AllReadyH.cons (o := _) rfl (fun K hK => ?_) ?_
          · refine step_alloc_z rfl 25 rfl _ (q_arr.zero _) ?_
            have hy := QAt.new w4 25 (fun _ => 0)
            have hlt := hx.lt
            have hsz := hst.size
            have s : Stay (fun _ => False) w4 (w4.alloc (.cells (qC (fun _ => 0)).toArray 25)) := Stay.alloc _ _
            change K _ (w4.alloc (.cells (qC (fun _ => 0)).toArray 25))
            generalize w4.alloc (.cells (qC (fun _ => 0)).toArray 25) = w5 at hy s ⊢
            obtain ⟨gy, hgy⟩ : ∃ g, g = w4.heap.size := ⟨_, rfl⟩
            rw [← hgy] at hy ⊢
            have hne : gx ≠ gy := by omega
            clear hlt
            have hbgy : w1.heap.size ≤ gy := by omega
            clear hgy hsz
            replace hx := hx.stay0 s
            replace hst := hst.trans s
            clear s
            refine Shut.out hK _ _ hst (fun _ => ?_)
            clear hK
            refine wpAnyH_listedL #[true, true, true, true, true, true, false, false] (by kernel_rfl) ?_
            conv => arg 8; simp [Act.put]
            refine wpAnyH_one #[true, true, true, true, true, true, true, false] (i := 6) rfl (by kernel_rfl) (by kernel_rfl) (fun K hK => ?_)
            refine step_store_q q_arr rfl (.tmp 7) (.tmp 10) rfl gx rfl _ (skN a) rfl hx ?_
            intro wz hz s
            replace hy := hy.stay s (fun e => hne e.symm)
            replace hst : Stay (fun _ => False) w1 wz := stay_seal (X := fun k => k = gx) ((hst.mono (fun _ x => x.elim)).trans s) (fun k e => by have e' : k = gx := e; omega)
            clear s hx
            have hx := hz
            clear hz
            refine hK _ _ hst ?_
            clear hK
            conv => arg 8; simp [Act.put]
            refine wpAnyH_one #[true, true, true, true, true, true, true, true] (i := 7) rfl (by kernel_rfl) (by kernel_rfl) (fun K hK => ?_)
            refine step_store_q q_arr rfl (.tmp 8) (.tmp 12) rfl gy rfl _ (skN b) rfl hy ?_
            intro wz hz s
            replace hx := hx.stay s (fun e => hne e)
            replace hst : Stay (fun _ => False) w1 wz := stay_seal (X := fun k => k = gy) ((hst.mono (fun _ x => x.elim)).trans s) (fun k e => by have e' : k = gy := e; omega)
            clear s hy
            have hy := hz
            clear hz
            refine hK _ _ hst ?_
            clear hK
            conv => arg 8; simp [Act.put]
            refine wpAnyH_done (by kernel_rfl) ?_ _
            exact ⟨gx, gy, rfl, rfl, hx, hy, hst⟩
          exact AllReadyH.nil
        refine AllReadyH.cons (o := _) rfl (fun K hK => ?_) ?_
        · refine step_alloc_z rfl 25 rfl _ (q_arr.zero _) ?_
          have hy := QAt.new w3 25 (fun _ => 0)
          have hlt := hx.lt
          have hsz := hst.size
          have s : Stay (fun _ => False) w3 (w3.alloc (.cells (qC (fun _ => 0)).toArray 25)) := Stay.alloc _ _
          change K _ (w3.alloc (.cells (qC (fun _ => 0)).toArray 25))
          generalize w3.alloc (.cells (qC (fun _ => 0)).toArray 25) = w4 at hy s ⊢
          obtain ⟨gy, hgy⟩ : ∃ g, g = w3.heap.size := ⟨_, rfl⟩
          rw [← hgy] at hy ⊢
          have hne : gx ≠ gy := by omega
          clear hlt
          have hbgy : w1.heap.size ≤ gy := by omega
          clear hgy hsz
          replace hx := hx.stay0 s
          replace hst := hst.trans s
          clear s
          refine Shut.out hK _ _ hst (fun _ => ?_)
          clear hK
          refine wpAnyH_listedL #[true, true, true, false, true, true, false, false] (by kernel_rfl) ?_
          conv => arg 8; simp [Act.put]
          refine wpAnyH_ready (rs := [3]) (by kernel_rfl) (by simp) ?_
          refine AllReadyH.cons (o := _) rfl (fun K hK => ?_) ?_
          · go_simp
            go_wp2_with (go_at_call 8; refine (rof_any b _ HB.out).mono ?_; rintro e w5 ⟨rfl, s⟩)
            replace hx := hx.stay0 s
            replace hy := hy.stay0 s
            replace hst := hst.trans s
            clear s
            refine Shut.out hK _ _ hst (fun _ => ?_)
            clear hK
            refine wpAnyH_listedL #[true, true, true, true, true, true, false, false] (by kernel_rfl) ?_
            conv => arg 8; simp [Act.put]
            refine wpAnyH_one #[true, true, true, true, true, true, true, false] (i := 6) rfl (by kernel_rfl) (by kernel_rfl) (fun K hK => ?_)
            refine step_store_q q_arr rfl (.tmp 7) (.tmp 10) rfl gx rfl _ (skN a) rfl hx ?_
            intro wz hz s
            replace hy := hy.stay s (fun e => hne e.symm)
            replace hst : Stay (fun _ => False) w1 wz := stay_seal (X := fun k => k = gx) ((hst.mono (fun _ x => x.elim)).trans s) (fun k e => by have e' : k = gx := e; omega)
            clear s hx
            have hx := hz
            clear hz
            refine hK _ _ hst ?_
            clear hK
            conv => arg 8; simp [Act.put]
            refine wpAnyH_one #[true, true, true, true, true, true, true, true] (i := 7) rfl (by kernel_rfl) (by kernel_rfl) (fun K hK => ?_)
            refine step_store_q q_arr rfl (.tmp 8) (.tmp 12) rfl gy rfl _ (skN b) rfl hy ?_
            intro wz hz s
            replace hx := hx.stay s (fun e => hne e)
            replace hst : Stay (fun _ => False) w1 wz := stay_seal (X := fun k => k = gy) ((hst.mono (fun _ x => x.elim)).trans s) (fun k e => by have e' : k = gy := e; omega)
            clear s hy
            have hy := hz
            clear hz
            refine hK _ _ hst ?_
            clear hK
            conv => arg 8; simp [Act.put]
            refine wpAnyH_done (by kernel_rfl) ?_ _
            exact ⟨gx, gy, rfl, rfl, hx, hy, hst⟩
          exact AllReadyH.nil
        exact AllReadyH.nil
      refine AllReadyH.cons (o := _) rfl (fun K hK => ?_) ?_
      · refine step_alloc_z rfl 25 rfl _ (q_arr.zero _) ?_
        have hy := QAt.new w2 25 (fun _ => 0)
        have hlt := hx.lt
        have hsz := hst.size
        have s : Stay (fun _ => False) w2 (w2.alloc (.cells (qC (fun _ => 0)).toArray 25)) := Stay.alloc _ _
        change K _ (w2.alloc (.cells (qC (fun _ => 0)).toArray 25))
        generalize w2.alloc (.cells (qC (fun _ => 0)).toArray 25) = w3 at hy s ⊢
        obtain ⟨gy, hgy⟩ : ∃ g, g = w2.heap.size := ⟨_, rfl⟩
        rw [← hgy] at hy ⊢
        have hne : gx ≠ gy := by omega
        clear hlt
        have hbgy : w1.heap.size ≤ gy := by omega
        clear hgy hsz
        replace hx := hx.stay0 s
        replace hst := hst.trans s
        clear s
        refine Shut.out hK _ _ hst (fun _ => ?_)
        clear hK
        refine wpAnyH_listedL #[true, false, true, false, true, true, false, false] (by kernel_rfl) ?_
        conv => arg 8; simp [Act.put]
        refine wpAnyH_ready (rs := [1]) (by kernel_rfl) (by simp) ?_
        refine AllReadyH.cons (o := _) rfl (fun K hK => ?_) ?_
        · go_simp
          go_wp2_with (go_at_call 8; refine (rof_any a _ HA.out).mono ?_; rintro e w4 ⟨rfl, s⟩)
          replace hx := hx.stay0 s
          replace hy := hy.stay0 s
          replace hst := hst.trans s
          clear s
          refine Shut.out hK _ _ hst (fun _ => ?_)
          clear hK
          refine wpAnyH_listedL #[true, true, true, false, true, true, false, false] (by kernel_rfl) ?_
          conv => arg 8; simp [Act.put]
          refine wpAnyH_ready (rs := [3]) (by kernel_rfl) (by simp) ?_
          refine AllReadyH.cons (o := _) rfl (fun K hK => ?_) ?_
          · go_simp
            go_wp2_with (go_at_call 8; refine (rof_any b _ HB.out).mono ?_; rintro e w5 ⟨rfl, s⟩)
            replace hx := hx.stay0 s
            replace hy := hy.stay0 s
            replace hst := hst.trans s
            clear s
            refine Shut.out hK _ _ hst (fun _ => ?_)
            clear hK
            refine wpAnyH_listedL #[true, true, true, true, true, true, false, false] (by kernel_rfl) ?_
            conv => arg 8; simp [Act.put]
            refine wpAnyH_one #[true, true, true, true, true, true, true, false] (i := 6) rfl (by kernel_rfl) (by kernel_rfl) (fun K hK => ?_)
            refine step_store_q q_arr rfl (.tmp 7) (.tmp 10) rfl gx rfl _ (skN a) rfl hx ?_
            intro wz hz s
            replace hy := hy.stay s (fun e => hne e.symm)
            replace hst : Stay (fun _ => False) w1 wz := stay_seal (X := fun k => k = gx) ((hst.mono (fun _ x => x.elim)).trans s) (fun k e => by have e' : k = gx := e; omega)
            clear s hx
            have hx := hz
            clear hz
            refine hK _ _ hst ?_
            clear hK
            conv => arg 8; simp [Act.put]
            refine wpAnyH_one #[true, true, true, true, true, true, true, true] (i := 7) rfl (by kernel_rfl) (by kernel_rfl) (fun K hK => ?_)
            refine step_store_q q_arr rfl (.tmp 8) (.tmp 12) rfl gy rfl _ (skN b) rfl hy ?_
            intro wz hz s
            replace hx := hx.stay s (fun e => hne e)
            replace hst : Stay (fun _ => False) w1 wz := stay_seal (X := fun k => k = gy) ((hst.mono (fun _ x => x.elim)).trans s) (fun k e => by have e' : k = gy := e; omega)
            clear s hy
            have hy := hz
            clear hz
            refine hK _ _ hst ?_
            clear hK
            conv => arg 8; simp [Act.put]
            refine wpAnyH_done (by kernel_rfl) ?_ _
            exact ⟨gx, gy, rfl, rfl, hx, hy, hst⟩
          exact AllReadyH.nil
        exact AllReadyH.nil
      exact AllReadyH.nil
    refine AllReadyH.cons (o := _) rfl (fun K hK => ?_) ?_
    · refine step_alloc_z rfl 25 rfl _ (q_arr.zero _) ?_
      have hy := QAt.new w1.drew 25 (fun _ => 0)
      have hsz := hst.size
      have s : Stay (fun _ => False) w1.drew (w1.drew.alloc (.cells (qC (fun _ => 0)).toArray 25)) := Stay.alloc _ _
      change K _ (w1.drew.alloc (.cells (qC (fun _ => 0)).toArray 25))
      generalize w1.drew.alloc (.cells (qC (fun _ => 0)).toArray 25) = w2 at hy s ⊢
      obtain ⟨gy, hgy⟩ : ∃ g, g = w1.drew.heap.size := ⟨_, rfl⟩
      rw [← hgy] at hy ⊢
      have hbgy : w1.heap.size ≤ gy := by omega
      clear hgy hsz
      replace hst := hst.trans s
      clear s
      refine Shut.out hK _ _ hst (fun _ => ?_)
      clear hK
      refine wpAnyH_listedL #[true, false, true, false, false, true, false, false] (by kernel_rfl) ?_
      conv => arg 8; simp [Act.put]
      refine wpAnyH_ready (rs := [1, 4]) (by kernel_rfl) (by simp) ?_
      refine AllReadyH.cons (o := _) rfl (fun K hK => ?_) ?_
      · go_simp
        go_wp2_with (go_at_call 8; refine (rof_any a _ HA.out).mono ?_; rintro e w3 ⟨rfl, s⟩)
        replace hy := hy.stay0 s
        replace hst := hst.trans s
        clear s
        refine Shut.out hK _ _ hst (fun _ => ?_)
        clear hK
        refine wpAnyH_listedL #[true, true, true, false, false, true, false, false] (by kernel_rfl) ?_
        conv => arg 8; simp [Act.put]
        refine wpAnyH_ready (rs := [3, 4]) (by kernel_rfl) (by simp) ?_
        refine AllReadyH.cons (o := _) rfl (fun K hK => ?_) ?_
        · go_simp
          go_wp2_with (go_at_call 8; refine (rof_any b _ HB.out).mono ?_; rintro e w4 ⟨rfl, s⟩)
          replace hy := hy.stay0 s
          replace hst := hst.trans s
          clear s
          refine Shut.out hK _ _ hst (fun _ => ?_)
          clear hK
          refine wpAnyH_listedL #[true, true, true, true, false, true, false, false] (by kernel_rfl) ?_
          conv => arg 8; simp [Act.put]
          refine wpAnyH_ready (rs := [4]) (by kernel_rfl) (by simp) ?_
          refine AllReadyH.cons (o := _) rfl (fun K hK => ?_) ?_
          · refine step_alloc_z rfl 25 rfl _ (q_arr.zero _) ?_
            have hx := QAt.new w4 25 (fun _ => 0)
            have hlt := hy.lt
            have hsz := hst.size
            have s : Stay (fun _ => False) w4 (w4.alloc (.cells (qC (fun _ => 0)).toArray 25)) := Stay.alloc _ _
            change K _ (w4.alloc (.cells (qC (fun _ => 0)).toArray 25))
            generalize w4.alloc (.cells (qC (fun _ => 0)).toArray 25) = w5 at hx s ⊢
            obtain ⟨gx, hgx⟩ : ∃ g, g = w4.heap.size := ⟨_, rfl⟩
            rw [← hgx] at hx ⊢
            have hne : gx ≠ gy := by omega
            clear hlt
            have hbgx : w1.heap.size ≤ gx := by omega
            clear hgx hsz
            replace hy := hy.stay0 s
            replace hst := hst.trans s
            clear s
            refine Shut.out hK _ _ hst (fun _ => ?_)
            clear hK
            refine wpAnyH_listedL #[true, true, true, true, true, true, false, false] (by kernel_rfl) ?_
            conv => arg 8; simp [Act.put]
            refine wpAnyH_one #[true, true, true, true, true, true, true, false] (i := 6) rfl (by kernel_rfl) (by kernel_rfl) (fun K hK => ?_)
            refine step_store_q q_arr rfl (.tmp 7) (.tmp 10) rfl gx rfl _ (skN a) rfl hx ?_
            intro wz hz s
            replace hy := hy.stay s (fun e => hne e.symm)
            replace hst : Stay (fun _ => False) w1 wz := stay_seal (X := fun k => k = gx) ((hst.mono (fun _ x => x.elim)).trans s) (fun k e => by have e' : k = gx := e; omega)
            clear s hx
            have hx := hz
            clear hz
            refine hK _ _ hst ?_
            clear hK
            conv => arg 8; simp [Act.put]
            refine wpAnyH_one #[true, true, true, true, true, true, true, true] (i := 7) rfl (by kernel_rfl) (by kernel_rfl) (fun K hK => ?_)
            refine step_store_q q_arr rfl (.tmp 8) (.tmp 12) rfl gy rfl _ (skN b) rfl hy ?_
            intro wz hz s
            replace hx := hx.stay s (fun e => hne e)
            replace hst : Stay (fun _ => False) w1 wz := stay_seal (X := fun k => k = gy) ((hst.mono (fun _ x => x.elim)).trans s) (fun k e => by have e' : k = gy := e; omega)
            clear s hy
            have hy := hz
            clear hz
            refine hK _ _ hst ?_
            clear hK
            conv => arg 8; simp [Act.put]
            refine wpAnyH_done (by kernel_rfl) ?_ _
            exact ⟨gx, gy, rfl, rfl, hx, hy, hst⟩
          exact AllReadyH.nil
        refine AllReadyH.cons (o := _) rfl (fun K hK => ?_) ?_
        · refine step_alloc_z rfl 25 rfl _ (q_arr.zero _) ?_
          have hx := QAt.new w3 25 (fun _ => 0)
          have hlt := hy.lt
          have hsz := hst.size
          have s : Stay (fun _ => False) w3 (w3.alloc (.cells (qC (fun _ => 0)).toArray 25)) := Stay.alloc _ _
          change K _ (w3.alloc (.cells (qC (fun _ => 0)).toArray 25))
          generalize w3.alloc (.cells (qC (fun _ => 0)).toArray 25) = w4 at hx s ⊢
          obtain ⟨gx, hgx⟩ : ∃ g, g = w3.heap.size := ⟨_, rfl⟩
          rw [← hgx] at hx ⊢
          have hne : gx ≠ gy := by omega
          clear hlt
          have hbgx : w1.heap.size ≤ gx := by omega
          clear hgx hsz
          replace hy := hy.stay0 s
          replace hst := hst.trans s
          clear s
          refine Shut.out hK _ _ hst (fun _ => ?_)
          clear hK
          refine wpAnyH_listedL #[true, true, true, false, true, true, false, false] (by kernel_rfl) ?_
          conv => arg 8; simp [Act.put]
          refine wpAnyH_ready (rs := [3]) (by kernel_rfl) (by simp) ?_
          refine AllReadyH.cons (o := _) rfl (fun K hK => ?_) ?_
          · go_simp
            go_wp2_with (go_at_call 8; refine (rof_any b _ HB.out).mono ?_; rintro e w5 ⟨rfl, s⟩)
            replace hx := hx.stay0 s
            replace hy := hy.stay0 s
            replace hst := hst.trans s
            clear s
            refine Shut.out hK _ _ hst (fun _ => ?_)
            clear hK
            refine wpAnyH_listedL #[true, true, true, true, true, true, false, false] (by kernel_rfl) ?_
            conv => arg 8; simp [Act.put]
            refine wpAnyH_one #[true, true, true, true, true, true, true, false] (i := 6) rfl (by kernel_rfl) (by kernel_rfl) (fun K hK => ?_)
            refine step_store_q q_arr rfl (.tmp 7) (.tmp 10) rfl gx rfl _ (skN a) rfl hx ?_
            intro wz hz s
            replace hy := hy.stay s (fun e => hne e.symm)
            replace hst : Stay (fun _ => False) w1 wz := stay_seal (X := fun k => k = gx) ((hst.mono (fun _ x => x.elim)).trans s) (fun k e => by have e' : k = gx := e; omega)
            clear s hx
            have hx := hz
            clear hz
            refine hK _ _ hst ?_
            clear hK
            conv => arg 8; simp [Act.put]
            refine wpAnyH_one #[true, true, true, true, true, true, true, true] (i := 7) rfl (by kernel_rfl) (by kernel_rfl) (fun K hK => ?_)
            refine step_store_q q_arr rfl (.tmp 8) (.tmp 12) rfl gy rfl _ (skN b) rfl hy ?_
            intro wz hz s
            replace hx := hx.stay s (fun e => hne e)
            replace hst : Stay (fun _ => False) w1 wz := stay_seal (X := fun k => k = gy) ((hst.mono (fun _ x => x.elim)).trans s) (fun k e => by have e' : k = gy := e; omega)
            clear s hy
            have hy := hz
            clear hz
            refine hK _ _ hst ?_
            clear hK
            conv => arg 8; simp [Act.put]
            refine wpAnyH_done (by kernel_rfl) ?_ _
            exact ⟨gx, gy, rfl, rfl, hx, hy, hst⟩
          exact AllReadyH.nil
        exact AllReadyH.nil
      refine AllReadyH.cons (o := _) rfl (fun K hK => ?_) ?_
      · refine step_alloc_z rfl 25 rfl _ (q_arr.zero _) ?_
        have hx := QAt.new w2 25 (fun _ => 0)
        have hlt := hy.lt
        have hsz := hst.size
        have s : Stay (fun _ => False) w2 (w2.alloc (.cells (qC (fun _ => 0)).toArray 25)) := Stay.alloc _ _
        change K _ (w2.alloc (.cells (qC (fun _ => 0)).toArray 25))
        generalize w2.alloc (.cells (qC (fun _ => 0)).toArray 25) = w3 at hx s ⊢
        obtain ⟨gx, hgx⟩ : ∃ g, g = w2.heap.size := ⟨_, rfl⟩
        rw [← hgx] at hx ⊢
        have hne : gx ≠ gy := by omega
        clear hlt
        have hbgx : w1.heap.size ≤ gx := by omega
        clear hgx hsz
        replace hy := hy.stay0 s
        replace hst := hst.trans s
        clear s
        refine Shut.out hK _ _ hst (fun _ => ?_)
        clear hK
        refine wpAnyH_listedL #[true, false, true, false, true, true, false, false] (by kernel_rfl) ?_
        conv => arg 8; simp [Act.put]
        refine wpAnyH_ready (rs := [1]) (by kernel_rfl) (by simp) ?_
        refine AllReadyH.cons (o := _) rfl (fun K hK => ?_) ?_
        · go_simp
          go_wp2_with (go_at_call 8; refine (rof_any a _ HA.out).mono ?_; rintro e w4 ⟨rfl, s⟩)
          replace hx := hx.stay0 s
          replace hy := hy.stay0 s
          replace hst := hst.trans s
          clear s
          refine Shut.out hK _ _ hst (fun _ => ?_)
          clear hK
          refine wpAnyH_listedL #[true, true, true, false, true, true, false, false] (by kernel_rfl) ?_
          conv => arg 8; simp [Act.put]
          refine wpAnyH_ready (rs := [3]) (by kernel_rfl) (by simp) ?_
          refine AllReadyH.cons (o := _) rfl (fun K hK => ?_) ?_
          · go_simp
            go_wp2_with (go_at_call 8; refine (rof_any b _ HB.out).mono ?_; rintro e w5 ⟨rfl, s⟩)
            replace hx := hx.stay0 s
            replace hy := hy.stay0 s
            replace hst := hst.trans s
            clear s
            refine Shut.out hK _ _ hst (fun _ => ?_)
            clear hK
            refine wpAnyH_listedL #[true, true, true, true, true, true, false, false] (by kernel_rfl) ?_
            conv => arg 8; simp [Act.put]
            refine wpAnyH_one #[true, true, true, true, true, true, true, false] (i := 6) rfl (by kernel_rfl) (by kernel_rfl) (fun K hK => ?_)
            refine step_store_q q_arr rfl (.tmp 7) (.tmp 10) rfl gx rfl _ (skN a) rfl hx ?_
            intro wz hz s
            replace hy := hy.stay s (fun e => hne e.symm)
            replace hst : Stay (fun _ => False) w1 wz := stay_seal (X := fun k => k = gx) ((hst.mono (fun _ x => x.elim)).trans s) (fun k e => by have e' : k = gx := e; omega)
            clear s hx
            have hx := hz
            clear hz
            refine hK _ _ hst ?_
            clear hK
            conv => arg 8; simp [Act.put]
            refine wpAnyH_one #[true, true, true, true, true, true, true, true] (i := 7) rfl (by kernel_rfl) (by kernel_rfl) (fun K hK => ?_)
            refine step_store_q q_arr rfl (.tmp 8) (.tmp 12) rfl gy rfl _ (skN b) rfl hy ?_
            intro wz hz s
            replace hx := hx.stay s (fun e => hne e)
            replace hst : Stay (fun _ => False) w1 wz := stay_seal (X := fun k => k = gy) ((hst.mono (fun _ x => x.elim)).trans s) (fun k e => by have e' : k = gy := e; omega)
            clear s hy
            have hy := hz
            clear hz
            refine hK _ _ hst ?_
            clear hK
            conv => arg 8; simp [Act.put]
            refine wpAnyH_done (by kernel_rfl) ?_ _
            exact ⟨gx, gy, rfl, rfl, hx, hy, hst⟩
          exact AllReadyH.nil
        exact AllReadyH.nil
      exact AllReadyH.nil
    exact AllReadyH.nil
  case next =>
    rintro e a' W rfl gx gy rfl hx hy hst
    have BX := Lib.hid (H0.out.stay0 hst)
    have BY := Lib.hid (H1.out.stay0 hst)
    have QX := Lib.hid hx
    have QY := Lib.hid hy
    have HW := Lib.hid (HS.out.trans hst)
    clear hx hy hst W1 H0 H1 HS
    obtain ⟨D, hDd⟩ : ∃ D : World → Prop, D = Stay (fun _ => False) W := ⟨_, rfl⟩
    have HD := Lib.hid (show ∀ V, D V → Stay (fun _ => False) W V by intro V h; rw [hDd] at h; exact h)
    have HDm := Lib.hid (show ∀ V, Stay (fun _ => False) W V → D V by intro V h; rw [hDd]; exact h)
    clear hDd
    have HN0 := Lib.hid (HDm.out W.drew Stay.drew)
    have k1 := Lib.hid (fun i : InC D => q_arr.run_load (QX.out.stay0 (HD.out _ i.h)))
    have k2 := Lib.hid (fun i : InC D => q_arr.run_load (QY.out.stay0 (HD.out _ i.h)))
    have k3 := Lib.hid (fun i : InC D => arr_64.run_load HA.out (BX.out.stay0 (HD.out _ i.h)))
    have k4 := Lib.hid (fun i : InC D => arr_64.run_load HB.out (BY.out.stay0 (HD.out _ i.h)))
    have e2 := fun i : InC D => eq_sk i.w (skN a) (skN a)
    rw [eqQ_self] at e2
    have e3 := fun i : InC D => run_five i.w w.heap.size
    have HX := Lib.hid (show ∀ V, D V → Slc V (.slice (some ⟨w.heap.size, 0, none⟩) 5 64) ((a.drop 0).take 5) from fun V hV => (BX.out.stay0 (HD.out V hV)).part (i := 0) (n := 5) (c := 64) (by rw [HA.out]; omega) (by omega) (by omega))
    have C1 := Lib.hid (show ∀ V, D V → Calls Try.prog 9 #[arrV a] V fun e w' => e = .returned (skV (skN a)) ∧ D w' from fun V hV => (of_any a V HA.out).mono fun e w' ⟨h1, h2⟩ => ⟨h1, HDm.out _ ((HD.out V hV).trans h2)⟩)
    have C2 := Lib.hid (show ∀ V, D V → Calls Try.prog 9 #[arrV b] V fun e w' => e = .returned (skV (skN b)) ∧ D w' from fun V hV => (of_any b V HB.out).mono fun e w' ⟨h1, h2⟩ => ⟨h1, HDm.out _ ((HD.out V hV).trans h2)⟩)
    have C3 := Lib.hid (show ∀ V, D V → Calls Try.prog 10 #[skV (skN a), skV (skN b)] V fun e w' => e = .returned (.int .i64 (likeN (skN a) (skN b) 4 : Int)) ∧ D w' from fun V hV => (like_any V (skN a) (skN b)).mono fun e w' ⟨h1, h2⟩ => ⟨h1, HDm.out _ ((HD.out V hV).trans h2)⟩)
    have C4 := Lib.hid (show ∀ V, D V → Calls Try.prog 11 #[skV (skN a), skV (skN b)] V fun e w' => e = .returned (.int .i64 (likeN (skN a) (skN b) 4 : Int)) ∧ D w' from fun V hV => (rlike_any V (skN a) (skN b)).mono fun e w' ⟨h1, h2⟩ => ⟨h1, HDm.out _ ((HD.out V hV).trans h2)⟩)
    have C5 := Lib.hid (show ∀ V, D V → Calls Try.prog 12 #[.int .i64 z, .slice (some ⟨w.heap.size, 0, none⟩) 5 64] V fun e w' => e = .returned (u32V (winN (lowB z) ((a.drop 0).take 5))) ∧ D w' from fun V hV => (window_any z _ _ V (HX.out V hV)).mono fun e w' ⟨h1, h2⟩ => ⟨h1, HDm.out _ ((HD.out V hV).trans h2)⟩)
    have C6 := Lib.hid (show ∀ V, D V → Calls Try.prog 13 #[.int .i64 z, .slice (some ⟨w.heap.size, 0, none⟩) 5 64] V fun e w' => e = .returned (u32V (winN (lowB z) ((a.drop 0).take 5))) ∧ D w' from fun V hV => (rwindow_any z _ _ V (HX.out V hV) (by rw [List.length_take]; omega)).mono fun e w' ⟨h1, h2⟩ => ⟨h1, HDm.out _ ((HD.out V hV).trans h2)⟩)
    have C7 := Lib.hid (show ∀ V, D V → Calls Try.prog 14 #[] V fun e w' => e = .returned (.bool true) ∧ D w' from fun V hV => (sure_any V).mono fun e w' ⟨h1, h2⟩ => ⟨h1, HDm.out _ ((HD.out V hV).trans h2)⟩)
    haveI : Nonempty (InC D) := ⟨⟨_, HN0.out⟩⟩
    generalize likeN (skN a) (skN b) 4 = m at *
    generalize winN (lowB z) ((a.drop 0).take 5) = v at *
    unfold u32V at C5 C6
    unfold arrV at k3 k4 C1 C2
    unfold skV at e2 k1 k2 C1 C2 C3 C4
    go_wp2_with (first
      | (refine wp_region_class D HN0.out (by kernel_rfl) (by kernel_rfl) ?_
         try go_frame
         repeat (first
          | (refine quiet_loadG (by rfl) 25 (.tmp 7) rfl ⟨gx, 0, none⟩ rfl _ k1.out ?_; go_frame)
          | (refine quiet_loadG (by rfl) 25 (.tmp 8) rfl ⟨gy, 0, none⟩ rfl _ k2.out ?_; go_frame)
          | (refine quiet_loadG (by rfl) 23 (.tmp 3) rfl ⟨w.heap.size, 0, none⟩ rfl _ k3.out ?_; go_frame)
          | (refine quiet_loadG (by rfl) 23 (.tmp 4) rfl ⟨w.heap.size + 1, 0, none⟩ rfl _ k4.out ?_; go_frame)
          | (go_big_quiet_step (first | with_reducible exact calls_class C1.out | with_reducible exact calls_class C2.out | with_reducible exact calls_class C3.out | with_reducible exact calls_class C4.out | with_reducible exact calls_class C5.out | with_reducible exact calls_class C6.out | with_reducible exact calls_class C7.out)))
         refine wpQuiet_nil ?_
         rintro V ⟨i, rfl⟩
         have hs := HD.out _ i.h
         clear k1 k2 k3 k4 e2 e3
         generalize i.w = w9 at *))
    go_ret
    exact ⟨rfl, HW.out.trans hs⟩
end Go.Proofs.Ytddgkckgbmgghaa.Sk
