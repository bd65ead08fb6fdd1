/-
  sketch's laws: SketchLike, walked.
-/
import Derived.Test.YtddgkckgbmgghaaSkI
namespace Go.Proofs.Ytddgkckgbmgghaa.Sk
open Go.RowKit Hn
set_option maxRecDepth 100000

set_option maxHeartbeats 4000000 in
theorem like_walk (w : World) (a b : List UInt8) (ha : a.length = 64) (hb : b.length = 64) :
    Calls Try.prog 5 #[arrV a, arrV b] w fun e w' => e = .returned (.bool true) ∧ Stay (fun _ => False) w w' := by
  have h0 := BAt.new w 23 a
  have h1 := BAt.new (w.alloc (.cells (cellsB a).toArray 23)) 23 b
  rw [show (w.alloc (.cells (cellsB a).toArray 23)).heap.size = w.heap.size + 1 by simp] at h1
  have h0' := h0.stay0 (Stay.alloc _ (.cells (cellsB b).toArray 23))
  have hs := (Stay.alloc (X := fun _ => False) w (.cells (cellsB a).toArray 23)).trans (Stay.alloc (X := fun _ => False) _ (.cells (cellsB b).toArray 23))
  obtain ⟨w1, hw1⟩ : ∃ w1, (w.alloc (.cells (cellsB a).toArray 23)).alloc (.cells (cellsB b).toArray 23) = w1 := ⟨_, rfl⟩
  rw [hw1] at h1 h0' hs
  have W1 := Lib.hid hw1
  have H0 := Lib.hid h0'
  have H1 := Lib.hid h1
  have HS := Lib.hid hs
  have HA := Lib.hid ha
  have HB := Lib.hid hb
  clear h0 h1 h0' hs hw1 ha hb
  unfold arrV
  go_enter Try.func5, Try.ntmps5
  go_wp2_with (first
    | (rw [W1.out]
       refine Code.wp_mono (Q := fun e a' W => ∃ gx gy, e = .normal ∧ a' = { tmps := #[.agg (cellsB a).toArray, .agg (cellsB b).toArray, .pointer (some ⟨w.heap.size, 0, none⟩), .pointer (some ⟨w.heap.size + 1, 0, none⟩), .bool false, .pointer (some ⟨gx, 0, none⟩), .pointer (some ⟨gy, 0, none⟩), undef, undef, undef, undef, arrV a, skV (skN a), arrV b, skV (skN b), undef, undef, undef, undef, undef, undef, undef, undef, undef, undef, undef, undef, undef, undef, undef, undef, undef, undef, undef, undef, undef, undef, undef, undef, undef, undef, undef, undef, undef, undef, undef, undef, undef, undef, undef, undef, undef, undef, undef, undef, undef, undef, undef, undef, undef, undef, undef, undef, undef, undef, undef, undef, undef, undef], defers := [] } ∧ QAt W gx 27 (skN a) ∧ QAt W gy 27 (skN b) ∧ Stay (fun _ => False) w1 W) ?_ ?_))
  case refine_2 =>
    clear W1
    refine wp_region_held (S := Stay (fun _ => False) w1) (by kernel_rfl) ?_
    change wpAnyH _ _ _ _ _ _ _ _ (World.drew _)
    have hst : Stay (fun _ => False) w1 w1.drew := Stay.drew
    refine wpAnyH_takeL (i := 0) #[true, false, false, false, false, false, false, false] rfl (by kernel_rfl) (by kernel_rfl) (by kernel_rfl) (fun _ _ _ h => by obtain ⟨_, _, h, _⟩ := h; cases h) (by kernel_rfl) hst (yieldsIf_load rfl 23 (.tmp 2) rfl ⟨w.heap.size, 0, none⟩ rfl _ (fun W hW => arr_64.run_load HA.out (H0.out.stay0 hW))) ?_
    conv => arg 8; simp [Act.put]
    refine wpAnyH_takeL (i := 2) #[true, false, true, false, false, false, false, false] rfl (by kernel_rfl) (by kernel_rfl) (by kernel_rfl) (fun _ _ _ h => by obtain ⟨_, _, h, _⟩ := h; cases h) (by kernel_rfl) hst (yieldsIf_load rfl 23 (.tmp 3) rfl ⟨w.heap.size + 1, 0, none⟩ rfl _ (fun W hW => arr_64.run_load HB.out (H1.out.stay0 hW))) ?_
    conv => arg 8; simp [Act.put]
    refine wpAnyH_ready (rs := [1, 4, 5]) (by kernel_rfl) (by simp) ?_
    refine AllReadyH.cons (o := _) rfl (fun K hK => ?_) ?_
    · go_simp
      go_wp2_with (go_at_call 9; refine (of_any a _ HA.out).mono ?_; rintro e w2 ⟨rfl, s⟩)
      replace hst := hst.trans s
      clear s
      refine Shut.out hK _ _ hst (fun _ => ?_)
      clear hK
      refine wpAnyH_listedL #[true, true, true, false, false, false, false, false] (by kernel_rfl) ?_
      conv => arg 8; simp [Act.put]
      refine wpAnyH_ready (rs := [3, 4, 5]) (by kernel_rfl) (by simp) ?_
      refine AllReadyH.cons (o := _) rfl (fun K hK => ?_) ?_
      · go_simp
        go_wp2_with (go_at_call 9; refine (of_any b _ HB.out).mono ?_; rintro e w3 ⟨rfl, s⟩)
        replace hst := hst.trans s
        clear s
        refine Shut.out hK _ _ hst (fun _ => ?_)
        clear hK
        refine wpAnyH_listedL #[true, true, true, true, false, false, false, false] (by kernel_rfl) ?_
        conv => arg 8; simp [Act.put]
        refine wpAnyH_ready (rs := [4, 5]) (by kernel_rfl) (by simp) ?_
        refine AllReadyH.cons (o := _) rfl (fun K hK => ?_) ?_
        · refine step_alloc_z rfl 27 rfl _ (q_sk.zero _) ?_
          have hx := QAt.new w3 27 (fun _ => 0)
          have hsz := hst.size
          have s : Stay (fun _ => False) w3 (w3.alloc (.cells (qC (fun _ => 0)).toArray 27)) := Stay.alloc _ _
          change K _ (w3.alloc (.cells (qC (fun _ => 0)).toArray 27))
          generalize w3.alloc (.cells (qC (fun _ => 0)).toArray 27) = w4 at hx s ⊢
          obtain ⟨gx, hgx⟩ : ∃ g, g = w3.heap.size := ⟨_, rfl⟩
          rw [← hgx] at hx ⊢
          have hbgx : w1.heap.size ≤ gx := by omega
          clear hgx hsz
          replace hst := hst.trans s
          clear s
          refine Shut.out hK _ _ hst (fun _ => ?_)
          clear hK
          refine wpAnyH_listedL #[true, true, true, true, true, false, false, false] (by kernel_rfl) ?_
          conv => arg 8; simp [Act.put]
          refine wpAnyH_ready (rs := [5]) (by kernel_rfl) (by simp) ?_
          refine AllReadyH.cons (o := _) rfl (fun K hK => ?_) ?_
          · refine step_alloc_z rfl 27 rfl _ (q_sk.zero _) ?_
            have hy := QAt.new w4 27 (fun _ => 0)
            have hlt := hx.lt
            have hsz := hst.size
            have s : Stay (fun _ => False) w4 (w4.alloc (.cells (qC (fun _ => 0)).toArray 27)) := Stay.alloc _ _
            change K _ (w4.alloc (.cells (qC (fun _ => 0)).toArray 27))
            generalize w4.alloc (.cells (qC (fun _ => 0)).toArray 27) = w5 at hy s ⊢
            obtain ⟨gy, hgy⟩ : ∃ g, g = w4.heap.size := ⟨_, rfl⟩
            rw [← hgy] at hy ⊢
            have hne : gx ≠ gy := by omega
            clear hlt
            have hbgy : w1.heap.size ≤ gy := by omega
            clear hgy hsz
            replace hx := hx.stay0 s
            replace hst := hst.trans s
            clear s
            refine Shut.out hK _ _ hst (fun _ => ?_)
            clear hK
            refine wpAnyH_listedL #[true, true, true, true, true, true, false, false] (by kernel_rfl) ?_
            conv => arg 8; simp [Act.put]
            refine wpAnyH_one #[true, true, true, true, true, true, true, false] (i := 6) rfl (by kernel_rfl) (by kernel_rfl) (fun K hK => ?_)
            refine step_store_q q_sk rfl (.tmp 5) (.tmp 12) rfl gx rfl _ (skN a) rfl hx ?_
            intro wz hz s
            replace hy := hy.stay s (fun e => hne e.symm)
            replace hst : Stay (fun _ => False) w1 wz := stay_seal (X := fun k => k = gx) ((hst.mono (fun _ x => x.elim)).trans s) (fun k e => by have e' : k = gx := e; omega)
            clear s hx
            have hx := hz
            clear hz
            refine hK _ _ hst ?_
            clear hK
            conv => arg 8; simp [Act.put]
            refine wpAnyH_one #[true, true, true, true, true, true, true, true] (i := 7) rfl (by kernel_rfl) (by kernel_rfl) (fun K hK => ?_)
            refine step_store_q q_sk rfl (.tmp 6) (.tmp 14) rfl gy rfl _ (skN b) rfl hy ?_
            intro wz hz s
            replace hx := hx.stay s (fun e => hne e)
            replace hst : Stay (fun _ => False) w1 wz := stay_seal (X := fun k => k = gy) ((hst.mono (fun _ x => x.elim)).trans s) (fun k e => by have e' : k = gy := e; omega)
            clear s hy
            have hy := hz
            clear hz
            refine hK _ _ hst ?_
            clear hK
            conv => arg 8; simp [Act.put]
            refine wpAnyH_done (by kernel_rfl) ?_ _
            exact ⟨gx, gy, rfl, rfl, hx, hy, hst⟩
          exact AllReadyH.nil
        refine AllReadyH.cons (o := _) rfl (fun K hK => ?_) ?_
        · refine step_alloc_z rfl 27 rfl _ (q_sk.zero _) ?_
          have hy := QAt.new w3 27 (fun _ => 0)
          have hsz := hst.size
          have s : Stay (fun _ => False) w3 (w3.alloc (.cells (qC (fun _ => 0)).toArray 27)) := Stay.alloc _ _
          change K _ (w3.alloc (.cells (qC (fun _ => 0)).toArray 27))
          generalize w3.alloc (.cells (qC (fun _ => 0)).toArray 27) = w4 at hy s ⊢
          obtain ⟨gy, hgy⟩ : ∃ g, g = w3.heap.size := ⟨_, rfl⟩
          rw [← hgy] at hy ⊢
          have hbgy : w1.heap.size ≤ gy := by omega
          clear hgy hsz
          replace hst := hst.trans s
          clear s
          refine Shut.out hK _ _ hst (fun _ => ?_)
          clear hK
          refine wpAnyH_listedL #[true, true, true, true, false, true, false, false] (by kernel_rfl) ?_
          conv => arg 8; simp [Act.put]
          refine wpAnyH_ready (rs := [4]) (by kernel_rfl) (by simp) ?_
          refine AllReadyH.cons (o := _) rfl (fun K hK => ?_) ?_
          · refine step_alloc_z rfl 27 rfl _ (q_sk.zero _) ?_
            have hx := QAt.new w4 27 (fun _ => 0)
            have hlt := hy.lt
            have hsz := hst.size
            have s : Stay (fun _ => False) w4 (w4.alloc (.cells (qC (fun _ => 0)).toArray 27)) := Stay.alloc _ _
            change K _ (w4.alloc (.cells (qC (fun _ => 0)).toArray 27))
            generalize w4.alloc (.cells (qC (fun _ => 0)).toArray 27) = w5 at hx s ⊢
            obtain ⟨gx, hgx⟩ : ∃ g, g = w4.heap.size := ⟨_, rfl⟩
            rw [← hgx] at hx ⊢
            have hne : gx ≠ gy := by omega
            clear hlt
            have hbgx : w1.heap.size ≤ gx := by omega
            clear hgx hsz
            replace hy := hy.stay0 s
            replace hst := hst.trans s
            clear s
            refine Shut.out hK _ _ hst (fun _ => ?_)
            clear hK
            refine wpAnyH_listedL #[true, true, true, true, true, true, false, false] (by kernel_rfl) ?_
            conv => arg 8; simp [Act.put]
            refine wpAnyH_one #[true, true, true, true, true, true, true, false] (i := 6) rfl (by kernel_rfl) (by kernel_rfl) (fun K hK => ?_)
            refine step_store_q q_sk rfl (.tmp 5) (.tmp 12) rfl gx rfl _ (skN a) rfl hx ?_
            intro wz hz s
            replace hy := hy.stay s (fun e => hne e.symm)
            replace hst : Stay (fun _ => False) w1 wz := stay_seal (X := fun k => k = gx) ((hst.mono (fun _ x => x.elim)).trans s) (fun k e => by have e' : k = gx := e; omega)
            clear s hx
            have hx := hz
            clear hz
            refine hK _ _ hst ?_
            clear hK
            conv => arg 8; simp [Act.put]
            refine wpAnyH_one #[true, true, true, true, true, true, true, true] (i := 7) rfl (by kernel_rfl) (by kernel_rfl) (fun K hK => ?_)
            refine step_store_q q_sk rfl (.tmp 6) (.tmp 14) rfl gy rfl _ (skN b) rfl hy ?_
            intro wz hz s
            replace hx := hx.stay s (fun e => hne e)
            replace hst : Stay (fun _ => False) w1 wz := stay_seal (X := fun k => k = gy) ((hst.mono (fun _ x => x.elim)).trans s) (fun k e => by have e' : k = gy := e; omega)
            clear s hy
            have hy := hz
            clear hz
            refine hK _ _ hst ?_
            clear hK
            conv => arg 8; simp [Act.put]
            refine wpAnyH_done (by kernel_rfl) ?_ _
            exact ⟨gx, gy, rfl, rfl, hx, hy, hst⟩
          exact AllReadyH.nil
        exact AllReadyH.nil
      refine AllReadyH.cons (o := _) rfl (fun K hK => ?_) ?_
      · refine step_alloc_z rfl 27 rfl _ (q_sk.zero _) ?_
        have hx := QAt.new w2 27 (fun _ => 0)
        have hsz := hst.size
        have s : Stay (fun _ => False) w2 (w2.alloc (.cells (qC (fun _ => 0)).toArray 27)) := Stay.alloc _ _
        change K _ (w2.alloc (.cells (qC (fun _ => 0)).toArray 27))
        generalize w2.alloc (.cells (qC (fun _ => 0)).toArray 27) = w3 at hx s ⊢
        obtain ⟨gx, hgx⟩ : ∃ g, g = w2.heap.size := ⟨_, rfl⟩
        rw [← hgx] at hx ⊢
        have hbgx : w1.heap.size ≤ gx := by omega
        clear hgx hsz
        replace hst := hst.trans s
        clear s
        refine Shut.out hK _ _ hst (fun _ => ?_)
        clear hK
        refine wpAnyH_listedL #[true, true, true, false, true, false, false, false] (by kernel_rfl) ?_
        conv => arg 8; simp [Act.put]
        refine wpAnyH_ready (rs := [3, 5]) (by kernel_rfl) (by simp) ?_
        refine AllReadyH.cons (o := _) rfl (fun K hK => ?_) ?_
        · go_simp
          go_wp2_with (go_at_call 9; refine (of_any b _ HB.out).mono ?_; rintro e w4 ⟨rfl, s⟩)
          replace hx := hx.stay0 s
          replace hst := hst.trans s
          clear s
          refine Shut.out hK _ _ hst (fun _ => ?_)
          clear hK
          refine wpAnyH_listedL #[true, true, true, true, true, false, false, false] (by kernel_rfl) ?_
          conv => arg 8; simp [Act.put]
          refine wpAnyH_ready (rs := [5]) (by kernel_rfl) (by simp) ?_
          refine AllReadyH.cons (o := _) rfl (fun K hK => ?_) ?_
          · refine step_alloc_z rfl 27 rfl _ (q_sk.zero _) ?_
            have hy := QAt.new w4 27 (fun _ => 0)
            have hlt := hx.lt
            have hsz := hst.size
            have s : Stay (fun _ => False) w4 (w4.alloc (.cells (qC (fun _ => 0)).toArray 27)) := Stay.alloc _ _
            change K _ (w4.alloc (.cells (qC (fun _ => 0)).toArray 27))
            generalize w4.alloc (.cells (qC (fun _ => 0)).toArray 27) = w5 at hy s ⊢
            obtain ⟨gy, hgy⟩ : ∃ g, g = w4.heap.size := ⟨_, rfl⟩
            rw [← hgy] at hy ⊢
            have hne : gx ≠ gy := by omega
            clear hlt
            have hbgy : w1.heap.size ≤ gy := by omega
            clear hgy hsz
            replace hx := hx.stay0 s
            replace hst := hst.trans s
            clear s
            refine Shut.out hK _ _ hst (fun _ => ?_)
            clear hK
            refine wpAnyH_listedL #[true, true, true, true, true, true, false, false] (by kernel_rfl) ?_
            conv => arg 8; simp [Act.put]
            refine wpAnyH_one #[true, true, true, true, true, true, true, false] (i := 6) rfl (by kernel_rfl) (by kernel_rfl) (fun K hK => ?_)
            refine step_store_q q_sk rfl (.tmp 5) (.tmp 12) rfl gx rfl _ (skN a) rfl hx ?_
            intro wz hz s
            replace hy := hy.stay s (fun e => hne e.symm)
            replace hst : Stay (fun _ => False) w1 wz := stay_seal (X := fun k => k = gx) ((hst.mono (fun _ x => x.elim)).trans s) (fun k e => by have e' : k = gx := e; omega)
            clear s hx
            have hx := hz
            clear hz
            refine hK _ _ hst ?_
            clear hK
            conv => arg 8; simp [Act.put]
            refine wpAnyH_one #[true, true, true, true, true, true, true, true] (i := 7) rfl (by kernel_rfl) (by kernel_rfl) (fun K hK => ?_)
            refine step_store_q q_sk rfl (.tmp 6) (.tmp 14) rfl gy rfl _ (skN b) rfl hy ?_
            intro wz hz s
            replace hx := hx.stay s (fun e => hne e)
            replace hst : Stay (fun _ => False) w1 wz := stay_seal (X := fun k => k = gy) ((hst.mono (fun _ x => x.elim)).trans s) (fun k e => by have e' : k = gy := e; omega)
            clear s hy
            have hy := hz
            clear hz
            refine hK _ _ hst ?_
            clear hK
            conv => arg 8; simp [Act.put]
            refine wpAnyH_done (by kernel_rfl) ?_ _
            exact ⟨gx, gy, rfl, rfl, hx, hy, hst⟩
          exact AllReadyH.nil
        refine AllReadyH.cons (o := _) rfl (fun K hK => ?_) ?_
        · refine step_alloc_z rfl 27 rfl _ (q_sk.zero _) ?_
          have hy := QAt.new w3 27 (fun _ => 0)
          have hlt := hx.lt
          have hsz := hst.size
          have s : Stay (fun _ => False) w3 (w3.alloc (.cells (qC (fun _ => 0)).toArray 27)) := Stay.alloc _ _
          change K _ (w3.alloc (.cells (qC (fun _ => 0)).toArray 27))
          generalize w3.alloc (.cells (qC (fun _ => 0)).toArray 27) = w4 at hy s ⊢
          obtain ⟨gy, hgy⟩ : ∃ g, g = w3.heap.size := ⟨_, rfl⟩
          rw [← hgy] at hy ⊢
          have hne : gx ≠ gy := by omega
          clear hlt
          have hbgy : w1.heap.size ≤ gy := by omega
          clear hgy hsz
          replace hx := hx.stay0 s
          replace hst := hst.trans s
          clear s
          refine Shut.out hK _ _ hst (fun _ => ?_)
          clear hK
          refine wpAnyH_listedL #[true, true, true, false, true, true, false, false] (by kernel_rfl) ?_
          conv => arg 8; simp [Act.put]
          refine wpAnyH_ready (rs := [3]) (by kernel_rfl) (by simp) ?_
          refine AllReadyH.cons (o := _) rfl (fun K hK => ?_) ?_
          · go_simp
            go_wp2_with (go_at_call 9; refine (of_any b _ HB.out).mono ?_; rintro e w5 ⟨rfl, s⟩)
            replace hx := hx.stay0 s
            replace hy := hy.stay0 s
            replace hst := hst.trans s
            clear s
            refine Shut.out hK _ _ hst (fun _ => ?_)
            clear hK
            refine wpAnyH_listedL #[true, true, true, true, true, true, false, false] (by kernel_rfl) ?_
            conv => arg 8; simp [Act.put]
            refine wpAnyH_one #[true, true, true, true, true, true, true, false] (i := 6) rfl (by kernel_rfl) (by kernel_rfl) (fun K hK => ?_)
            refine step_store_q q_sk rfl (.tmp 5) (.tmp 12) rfl gx rfl _ (skN a) rfl hx ?_
            intro wz hz s
            replace hy := hy.stay s (fun e => hne e.symm)
            replace hst : Stay (fun _ => False) w1 wz := stay_seal (X := fun k => k = gx) ((hst.mono (fun _ x => x.elim)).trans s) (fun k e => by have e' : k = gx := e; omega)
            clear s hx
            have hx := hz
            clear hz
            refine hK _ _ hst ?_
            clear hK
            conv => arg 8; simp [Act.put]
            refine wpAnyH_one #[true, true, true, true, true, true, true, true] (i := 7) rfl (by kernel_rfl) (by kernel_rfl) (fun K hK => ?_)
            refine step_store_q q_sk rfl (.tmp 6) (.tmp 14) rfl gy rfl _ (skN b) rfl hy ?_
            intro wz hz s
            replace hx := hx.stay s (fun e => hne e)
            replace hst : Stay (fun _ => False) w1 wz := stay_seal (X := fun k => k = gy) ((hst.mono (fun _ x => x.elim)).trans s) (fun k e => by have e' : k = gy := e; omega)
            clear s hy
            have hy := hz
            clear hz
            refine hK _ _ hst ?_
            clear hK
            conv => arg 8; simp [Act.put]
            refine wpAnyH_done (by kernel_rfl) ?_ _
            exact ⟨gx, gy, rfl, rfl, hx, hy, hst⟩
          exact AllReadyH.nil
        exact AllReadyH.nil
      refine AllReadyH.cons (o := _) rfl (fun K hK => ?_) ?_
      · refine step_alloc_z rfl 27 rfl _ (q_sk.zero _) ?_
        have hy := QAt.new w2 27 (fun _ => 0)
        have hsz := hst.size
        have s : Stay (fun _ => False) w2 (w2.alloc (.cells (qC (fun _ => 0)).toArray 27)) := Stay.alloc _ _
        change K _ (w2.alloc (.cells (qC (fun _ => 0)).toArray 27))
        generalize w2.alloc (.cells (qC (fun _ => 0)).toArray 27) = w3 at hy s ⊢
        obtain ⟨gy, hgy⟩ : ∃ g, g = w2.heap.size := ⟨_, rfl⟩
        rw [← hgy] at hy ⊢
        have hbgy : w1.heap.size ≤ gy := by omega
        clear hgy hsz
        replace hst := hst.trans s
        clear s
        refine Shut.out hK _ _ hst (fun _ => ?_)
        clear hK
        refine wpAnyH_listedL #[true, true, true, false, false, true, false, false] (by kernel_rfl) ?_
        conv => arg 8; simp [Act.put]
        refine wpAnyH_ready (rs := [3, 4]) (by kernel_rfl) (by simp) ?_
        refine AllReadyH.cons (o := _) rfl (fun K hK => ?_) ?_
        · go_simp
          go_wp2_with (go_at_call 9; refine (of_any b _ HB.out).mono ?_; rintro e w4 ⟨rfl, s⟩)
          replace hy := hy.stay0 s
          replace hst := hst.trans s
          clear s
          refine Shut.out hK _ _ hst (fun _ => ?_)
          clear hK
          refine wpAnyH_listedL #[true, true, true, true, false, true, false, false] (by kernel_rfl) ?_
          conv => arg 8; simp [Act.put]
          refine wpAnyH_ready (rs := [4]) (by kernel_rfl) (by simp) ?_
          refine AllReadyH.cons (o := _) rfl (fun K hK => ?_) ?_
          · refine step_alloc_z rfl 27 rfl _ (q_sk.zero _) ?_
            have hx := QAt.new w4 27 (fun _ => 0)
            have hlt := hy.lt
            have hsz := hst.size
            have s : Stay (fun _ => False) w4 (w4.alloc (.cells (qC (fun _ => 0)).toArray 27)) := Stay.alloc _ _
            change K _ (w4.alloc (.cells (qC (fun _ => 0)).toArray 27))
            generalize w4.alloc (.cells (qC (fun _ => 0)).toArray 27) = w5 at hx s ⊢
            obtain ⟨gx, hgx⟩ : ∃ g, g = w4.heap.size := ⟨_, rfl⟩
            rw [← hgx] at hx ⊢
            have hne : gx ≠ gy := by omega
            clear hlt
            have hbgx : w1.heap.size ≤ gx := by omega
            clear hgx hsz
            replace hy := hy.stay0 s
            replace hst := hst.trans s
            clear s
            refine Shut.out hK _ _ hst (fun _ => ?_)
            clear hK
            refine wpAnyH_listedL #[true, true, true, true, true, true, false, false] (by kernel_rfl) ?_
            conv => arg 8; simp [Act.put]
            refine wpAnyH_one #[true, true, true, true, true, true, true, false] (i := 6) rfl (by kernel_rfl) (by kernel_rfl) (fun K hK => ?_)
            refine step_store_q q_sk rfl (.tmp 5) (.tmp 12) rfl gx rfl _ (skN a) rfl hx ?_
            intro wz hz s
            replace hy := hy.stay s (fun e => hne e.symm)
            replace hst : Stay (fun _ => False) w1 wz := stay_seal (X := fun k => k = gx) ((hst.mono (fun _ x => x.elim)).trans s) (fun k e => by have e' : k = gx := e; omega)
            clear s hx
            have hx := hz
            clear hz
            refine hK _ _ hst ?_
            clear hK
            conv => arg 8; simp [Act.put]
            refine wpAnyH_one #[true, true, true, true, true, true, true, true] (i := 7) rfl (by kernel_rfl) (by kernel_rfl) (fun K hK => ?_)
            refine step_store_q q_sk rfl (.tmp 6) (.tmp 14) rfl gy rfl _ (skN b) rfl hy ?_
            intro wz hz s
            replace hx := hx.stay s (fun e => hne e)
            replace hst : Stay (fun _ => False) w1 wz := stay_seal (X := fun k => k = gy) ((hst.mono (fun _ x => x.elim)).trans s) (fun k e => by have e' : k = gy := e; omega)
            clear s hy
            have hy := hz
            clear hz
            refine hK _ _ hst ?_
            clear hK
            conv => arg 8; simp [Act.put]
            refine wpAnyH_done (by kernel_rfl) ?_ _
            exact ⟨gx, gy, rfl, rfl, hx, hy, hst⟩
          exact AllReadyH.nil
        refine AllReadyH.cons (o := _) rfl (fun K hK => ?_) ?_
        · refine step_alloc_z rfl 27 rfl _ (q_sk.zero _) ?_
          have hx := QAt.new w3 27 (fun _ => 0)
          have hlt := hy.lt
          have hsz := hst.size
          have s : Stay (fun _ => False) w3 (w3.alloc (.cells (qC (fun _ => 0)).toArray 27)) := Stay.alloc _ _
          change K _ (w3.alloc (.cells (qC (fun _ => 0)).toArray 27))
          generalize w3.alloc (.cells (qC (fun _ => 0)).toArray 27) = w4 at hx s ⊢
          obtain ⟨gx, hgx⟩ : ∃ g, g = w3.heap.size := ⟨_, rfl⟩
          rw [← hgx] at hx ⊢
          have hne : gx ≠ gy := by omega
          clear hlt
          have hbgx : w1.heap.size ≤ gx := by omega
          clear hgx hsz
          replace hy := hy.stay0 s
          replace hst := hst.trans s
          clear s
          refine Shut.out hK _ _ hst (fun _ => ?_)
          clear hK
          refine wpAnyH_listedL #[true, true, true, false, true, true, false, false] (by kernel_rfl) ?_
          conv => arg 8; simp [Act.put]
          refine wpAnyH_ready (rs := [3]) (by kernel_rfl) (by simp) ?_
          refine AllReadyH.cons (o := _) rfl (fun K hK => ?_) ?_
          · go_simp
            go_wp2_with (go_at_call 9; refine (of_any b _ HB.out).mono ?_; rintro e w5 ⟨rfl, s⟩)
            replace hx := hx.stay0 s
            replace hy := hy.stay0 s
            replace hst := hst.trans s
            clear s
            refine Shut.out hK _ _ hst (fun _ => ?_)
            clear hK
            refine wpAnyH_listedL #[true, true, true, true, true, true, false, false] (by kernel_rfl) ?_
            conv => arg 8; simp [Act.put]
            refine wpAnyH_one #[true, true, true, true, true, true, true, false] (i := 6) rfl (by kernel_rfl) (by kernel_rfl) (fun K hK => ?_)
            refine step_store_q q_sk rfl (.tmp 5) (.tmp 12) rfl gx rfl _ (skN a) rfl hx ?_
            intro wz hz s
            replace hy := hy.stay s (fun e => hne e.symm)
            replace hst : Stay (fun _ => False) w1 wz := stay_seal (X := fun k => k = gx) ((hst.mono (fun _ x => x.elim)).trans s) (fun k e => by have e' : k = gx := e; omega)
            clear s hx
            have hx := hz
            clear hz
            refine hK _ _ hst ?_
            clear hK
            conv => arg 8; simp [Act.put]
            refine wpAnyH_one #[true, true, true, true, true, true, true, true] (i := 7) rfl (by kernel_rfl) (by kernel_rfl) (fun K hK => ?_)
            refine step_store_q q_sk rfl (.tmp 6) (.tmp 14) rfl gy rfl _ (skN b) rfl hy ?_
            intro wz hz s
            replace hx := hx.stay s (fun e => hne e)
            replace hst : Stay (fun _ => False) w1 wz := stay_seal (X := fun k => k = gy) ((hst.mono (fun _ x => x.elim)).trans s) (fun k e => by have e' : k = gy := e; omega)
            clear s hy
            have hy := hz
            clear hz
            refine hK _ _ hst ?_
            clear hK
            conv => arg 8; simp [Act.put]
            refine wpAnyH_done (by kernel_rfl) ?_ _
            exact ⟨gx, gy, rfl, rfl, hx, hy, hst⟩
          exact AllReadyH.nil
        exact AllReadyH.nil
      exact AllReadyH.nil
    refine AllReadyH.cons (o := _) rfl (fun K hK => ?_) ?_
    · refine step_alloc_z rfl 27 rfl _ (q_sk.zero _) ?_
      have hx := QAt.new w1.drew 27 (fun _ => 0)
      have hsz := hst.size
      have s : Stay (fun _ => False) w1.drew (w1.drew.alloc (.cells (qC (fun _ => 0)).toArray 27)) := Stay.alloc _ _
      change K _ (w1.drew.alloc (.cells (qC (fun _ => 0)).toArray 27))
      generalize w1.drew.alloc (.cells (qC (fun _ => 0)).toArray 27) = w2 at hx s ⊢
      obtain ⟨gx, hgx⟩ : ∃ g, g = w1.drew.heap.size := ⟨_, rfl⟩
      rw [← hgx] at hx ⊢
      have hbgx : w1.heap.size ≤ gx := by omega
      clear hgx hsz
      replace hst := hst.trans s
      clear s
      refine Shut.out hK _ _ hst (fun _ => ?_)
      clear hK
      refine wpAnyH_listedL #[true, false, true, false, true, false, false, false] (by kernel_rfl) ?_
      conv => arg 8; simp [Act.put]
      refine wpAnyH_ready (rs := [1, 5]) (by kernel_rfl) (by simp) ?_
      refine AllReadyH.cons (o := _) rfl (fun K hK => ?_) ?_
      · go_simp
        go_wp2_with (go_at_call 9; refine (of_any a _ HA.out).mono ?_; rintro e w3 ⟨rfl, s⟩)
        replace hx := hx.stay0 s
        replace hst := hst.trans s
        clear s
        refine Shut.out hK _ _ hst (fun _ => ?_)
        clear hK
        refine wpAnyH_listedL #[true, true, true, false, true, false, false, false] (by kernel_rfl) ?_
        conv => arg 8; simp [Act.put]
        refine wpAnyH_ready (rs := [3, 5]) (by kernel_rfl) (by simp) ?_
        refine AllReadyH.cons (o := _) rfl (fun K hK => ?_) ?_
        · go_simp
          go_wp2_with (go_at_call 9; refine (of_any b _ HB.out).mono ?_; rintro e w4 ⟨rfl, s⟩)
          replace hx := hx.stay0 s
          replace hst := hst.trans s
          clear s
          refine Shut.out hK _ _ hst (fun _ => ?_)
          clear hK
          refine wpAnyH_listedL #[true, true, true, true, true, false, false, false] (by kernel_rfl) ?_
          conv => arg 8; simp [Act.put]
          refine wpAnyH_ready (rs := [5]) (by kernel_rfl) (by simp) ?_
          refine AllReadyH.cons (o := _) rfl (fun K hK => ?_) ?_
          · refine step_alloc_z rfl 27 rfl _ (q_sk.zero _) ?_
            have hy := QAt.new w4 27 (fun _ => 0)
            have hlt := hx.lt
            have hsz := hst.size
            have s : Stay (fun _ => False) w4 (w4.alloc (.cells (qC (fun _ => 0)).toArray 27)) := Stay.alloc _ _
            change K _ (w4.alloc (.cells (qC (fun _ => 0)).toArray 27))
            generalize w4.alloc (.cells (qC (fun _ => 0)).toArray 27) = w5 at hy s ⊢
            obtain ⟨gy, hgy⟩ : ∃ g, g = w4.heap.size := ⟨_, rfl⟩
            rw [← hgy] at hy ⊢
            have hne : gx ≠ gy := by omega
            clear hlt
            have hbgy : w1.heap.size ≤ gy := by omega
            clear hgy hsz
            replace hx := hx.stay0 s
            replace hst := hst.trans s
            clear s
            refine Shut.out hK _ _ hst (fun _ => ?_)
            clear hK
            refine wpAnyH_listedL #[true, true, true, true, true, true, false, false] (by kernel_rfl) ?_
            conv => arg 8; simp [Act.put]
            refine wpAnyH_one #[true, true, true, true, true, true, true, false] (i := 6) rfl (by kernel_rfl) (by kernel_rfl) (fun K hK => ?_)
            refine step_store_q q_sk rfl (.tmp 5) (.tmp 12) rfl gx rfl _ (skN a) rfl hx ?_
            intro wz hz s
            replace hy := hy.stay s (fun e => hne e.symm)
            replace hst : Stay (fun _ => False) w1 wz := stay_seal (X := fun k => k = gx) ((hst.mono (fun _ x => x.elim)).trans s) (fun k e => by have e' : k = gx := e; omega)
            clear s hx
            have hx := hz
            clear hz
            refine hK _ _ hst ?_
            clear hK
            conv => arg 8; simp [Act.put]
            refine wpAnyH_one #[true, true, true, true, true, true, true, true] (i := 7) rfl (by kernel_rfl) (by kernel_rfl) (fun K hK => ?_)
            refine step_store_q q_sk rfl (.tmp 6) (.tmp 14) rfl gy rfl _ (skN b) rfl hy ?_
            intro wz hz s
            replace hx := hx.stay s (fun e => hne e)
            replace hst : Stay (fun _ => False) w1 wz := stay_seal (X := fun k => k = gy) ((hst.mono (fun _ x => x.elim)).trans s) (fun k e => by have e' : k = gy := e; omega)
            clear s hy
            have hy := hz
            clear hz
            refine hK _ _ hst ?_
            clear hK
            conv => arg 8; simp [Act.put]
            refine wpAnyH_done (by kernel_rfl) ?_ _
            exact ⟨gx, gy, rfl, rfl, hx, hy, hst⟩
          exact AllReadyH.nil
        refine AllReadyH.cons (o := _) rfl (fun K hK => ?_) ?_
        · refine step_alloc_z rfl 27 rfl _ (q_sk.zero _) ?_
          have hy := QAt.new w3 27 (fun _ => 0)
          have hlt := hx.lt
          have hsz := hst.size
          have s : Stay (fun _ => False) w3 (w3.alloc (.cells (qC (fun _ => 0)).toArray 27)) := Stay.alloc _ _
          change K _ (w3.alloc (.cells (qC (fun _ => 0)).toArray 27))
          generalize w3.alloc (.cells (qC (fun _ => 0)).toArray 27) = w4 at hy s ⊢
          obtain ⟨gy, hgy⟩ : ∃ g, g = w3.heap.size := ⟨_, rfl⟩
          rw [← hgy] at hy ⊢
          have hne : gx ≠ gy := by omega
          clear hlt
          have hbgy : w1.heap.size ≤ gy := by omega
          clear hgy hsz
          replace hx := hx.stay0 s
          replace hst := hst.trans s
          clear s
          refine Shut.out hK _ _ hst (fun _ => ?_)
          clear hK
          refine wpAnyH_listedL #[true, true, true, false, true, true, false, false] (by kernel_rfl) ?_
          conv => arg 8; simp [Act.put]
          refine wpAnyH_ready (rs := [3]) (by kernel_rfl) (by simp) ?_
          refine AllReadyH.cons (o := _) rfl (fun K hK => ?_) ?_
          · go_simp
            go_wp2_with (go_at_call 9; refine (of_any b _ HB.out).mono ?_; rintro e w5 ⟨rfl, s⟩)
            replace hx := hx.stay0 s
            replace hy := hy.stay0 s
            replace hst := hst.trans s
            clear s
            refine Shut.out hK _ _ hst (fun _ => ?_)
            clear hK
            refine wpAnyH_listedL #[true, true, true, true, true, true, false, false] (by kernel_rfl) ?_
            conv => arg 8; simp [Act.put]
            refine wpAnyH_one #[true, true, true, true, true, true, true, false] (i := 6) rfl (by kernel_rfl) (by kernel_rfl) (fun K hK => ?_)
            refine step_store_q q_sk rfl (.tmp 5) (.tmp 12) rfl gx rfl _ (skN a) rfl hx ?_
            intro wz hz s
            replace hy := hy.stay s (fun e => hne e.symm)
            replace hst : Stay (fun _ => False) w1 wz := stay_seal (X := fun k => k = gx) ((hst.mono (fun _ x => x.elim)).trans s) (fun k e => by have e' : k = gx := e; omega)
            clear s hx
            have hx := hz
            clear hz
            refine hK _ _ hst ?_
            clear hK
            conv => arg 8; simp [Act.put]
            refine wpAnyH_one #[true, true, true, true, true, true, true, true] (i := 7) rfl (by kernel_rfl) (by kernel_rfl) (fun K hK => ?_)
            refine step_store_q q_sk rfl (.tmp 6) (.tmp 14) rfl gy rfl _ (skN b) rfl hy ?_
            intro wz hz s
            replace hx := hx.stay s (fun e => hne e)
            replace hst : Stay (fun _ => False) w1 wz := stay_seal (X := fun k => k = gy) ((hst.mono (fun _ x => x.elim)).trans s) (fun k e => by have e' : k = gy := e; omega)
            clear s hy
            have hy := hz
            clear hz
            refine hK _ _ hst ?_
            clear hK
            conv => arg 8; simp [Act.put]
            refine wpAnyH_done (by kernel_rfl) ?_ _
            exact ⟨gx, gy, rfl, rfl, hx, hy, hst⟩
          exact AllReadyH.nil
        exact AllReadyH.nil
      refine AllReadyH.cons (o := _) rfl (fun K hK => ?_) ?_
      · refine step_alloc_z rfl 27 rfl _ (q_sk.zero _) ?_
        have hy := QAt.new w2 27 (fun _ => 0)
        have hlt := hx.lt
        have hsz := hst.size
        have s : Stay (fun _ => False) w2 (w2.alloc (.cells (qC (fun _ => 0)).toArray 27)) := Stay.alloc _ _
        change K _ (w2.alloc (.cells (qC (fun _ => 0)).toArray 27))
        generalize w2.alloc (.cells (qC (fun _ => 0)).toArray 27) = w3 at hy s ⊢
        obtain ⟨gy, hgy⟩ : ∃ g, g = w2.heap.size := ⟨_, rfl⟩
        rw [← hgy] at hy ⊢
        have hne : gx ≠ gy := by omega
        clear hlt
        have hbgy : w1.heap.size ≤ gy := by omega
        clear hgy hsz
        replace hx := hx.stay0 s
        replace hst := hst.trans s
        clear s
        refine Shut.out hK _ _ hst (fun _ => ?_)
        clear hK
        refine wpAnyH_listedL #[true, false, true, false, true, true, false, false] (by kernel_rfl) ?_
        conv => arg 8; simp [Act.put]
        refine wpAnyH_ready (rs := [1]) (by kernel_rfl) (by simp) ?_
        refine AllReadyH.cons (o := _) rfl (fun K hK => ?_) ?_
        · go_simp
          go_wp2_with (go_at_call 9; refine (of_any a _ HA.out).mono ?_; rintro e w4 ⟨rfl, s⟩)
          replace hx := hx.stay0 s
          replace hy := hy.stay0 s
          replace hst := hst.trans s
          clear s
          refine Shut.out hK _ _ hst (fun _ => ?_)
          clear hK
          refine wpAnyH_listedL #[true, true, true, false, true, true, false, false] (by kernel_rfl) ?_
          conv => arg 8; simp [Act.put]
          refine wpAnyH_ready (rs := [3]) (by kernel_rfl) (by simp) ?_
          refine AllReadyH.cons (o := _) rfl (fun K hK => ?_) ?_
          · go_simp
            go_wp2_with (go_at_call 9; refine (of_any b _ HB.out).mono ?_; rintro e w5 ⟨rfl, s⟩)
            replace hx := hx.stay0 s
            replace hy := hy.stay0 s
            replace hst := hst.trans s
            clear s
            refine Shut.out hK _ _ hst (fun _ => ?_)
            clear hK
            refine wpAnyH_listedL #[true, true, true, true, true, true, false, false] (by kernel_rfl) ?_
            conv => arg 8; simp [Act.put]
            refine wpAnyH_one #[true, true, true, true, true, true, true, false] (i := 6) rfl (by kernel_rfl) (by kernel_rfl) (fun K hK => ?_)
            refine step_store_q q_sk rfl (.tmp 5) (.tmp 12) rfl gx rfl _ (skN a) rfl hx ?_
            intro wz hz s
            replace hy := hy.stay s (fun e => hne e.symm)
            replace hst : Stay (fun _ => False) w1 wz := stay_seal (X := fun k => k = gx) ((hst.mono (fun _ x => x.elim)).trans s) (fun k e => by have e' : k = gx := e; omega)
            clear s hx
            have hx := hz
            clear hz
            refine hK _ _ hst ?_
            clear hK
            conv => arg 8; simp [Act.put]
            refine wpAnyH_one #[true, true, true, true, true, true, true, true] (i := 7) rfl (by kernel_rfl) (by kernel_rfl) (fun K hK => ?_)
            refine step_store_q q_sk rfl (.tmp 6) (.tmp 14) rfl gy rfl _ (skN b) rfl hy ?_
            intro wz hz s
            replace hx := hx.stay s (fun e => hne e)
            replace hst : Stay (fun _ => False) w1 wz := stay_seal (X := fun k => k = gy) ((hst.mono (fun _ x => x.elim)).trans s) (fun k e => by have e' : k = gy := e; omega)
            clear s hy
            have hy := hz
            clear hz
            refine hK _ _ hst ?_
            clear hK
            conv => arg 8; simp [Act.put]
            refine wpAnyH_done (by kernel_rfl) ?_ _
            exact ⟨gx, gy, rfl, rfl, hx, hy, hst⟩
          exact AllReadyH.nil
        exact AllReadyH.nil
      exact AllReadyH.nil
    refine AllReadyH.cons (o := _) rfl (fun K hK => ?_) ?_
    · refine step_alloc_z rfl 27 rfl _ (q_sk.zero _) ?_
      have hy := QAt.new w1.drew 27 (fun _ => 0)
      have hsz := hst.size
      have s : Stay (fun _ => False) w1.drew (w1.drew.alloc (.cells (qC (fun _ => 0)).toArray 27)) := Stay.alloc _ _
      change K _ (w1.drew.alloc (.cells (qC (fun _ => 0)).toArray 27))
      generalize w1.drew.alloc (.cells (qC (fun _ => 0)).toArray 27) = w2 at hy s ⊢
      obtain ⟨gy, hgy⟩ : ∃ g, g = w1.drew.heap.size := ⟨_, rfl⟩
      rw [← hgy] at hy ⊢
      have hbgy : w1.heap.size ≤ gy := by omega
      clear hgy hsz
      replace hst := hst.trans s
      clear s
      refine Shut.out hK _ _ hst (fun _ => ?_)
      clear hK
      refine wpAnyH_listedL #[true, false, true, false, false, true, false, false] (by kernel_rfl) ?_
      conv => arg 8; simp [Act.put]
      refine wpAnyH_ready (rs := [1, 4]) (by kernel_rfl) (by simp) ?_
      refine AllReadyH.cons (o := _) rfl (fun K hK => ?_) ?_
      · go_simp
        go_wp2_with (go_at_call 9; refine (of_any a _ HA.out).mono ?_; rintro e w3 ⟨rfl, s⟩)
        replace hy := hy.stay0 s
        replace hst := hst.trans s
        clear s
        refine Shut.out hK _ _ hst (fun _ => ?_)
        clear hK
        refine wpAnyH_listedL #[true, true, true, false, false, true, false, false] (by kernel_rfl) ?_
        conv => arg 8; simp [Act.put]
        refine wpAnyH_ready (rs := [3, 4]) (by kernel_rfl) (by simp) ?_
        refine AllReadyH.cons (o := _) rfl (fun K hK => ?_) ?_
        · go_simp
          go_wp2_with (go_at_call 9; refine (of_any b _ HB.out).mono ?_; rintro e w4 ⟨rfl, s⟩)
          replace hy := hy.stay0 s
          replace hst := hst.trans s
          clear s
          refine Shut.out hK _ _ hst (fun _ => ?_)
          clear hK
          refine wpAnyH_listedL #[true, true, true, true, false, true, false, false] (by kernel_rfl) ?_
          conv => arg 8; simp [Act.put]
          refine wpAnyH_ready (rs := [4]) (by kernel_rfl) (by simp) ?_
          refine AllReadyH.cons (o := _) rfl (fun K hK => ?_) ?_
          · refine step_alloc_z rfl 27 rfl _ (q_sk.zero _) ?_
            have hx := QAt.new w4 27 (fun _ => 0)
            have hlt := hy.lt
            have hsz := hst.size
            have s : Stay (fun _ => False) w4 (w4.alloc (.cells (qC (fun _ => 0)).toArray 27)) := Stay.alloc _ _
            change K _ (w4.alloc (.cells (qC (fun _ => 0)).toArray 27))
            generalize w4.alloc (.cells (qC (fun _ => 0)).toArray 27) = w5 at hx s ⊢
            obtain ⟨gx, hgx⟩ : ∃ g, g = w4.heap.size := ⟨_, rfl⟩
            rw [← hgx] at hx ⊢
            have hne : gx ≠ gy := by omega
            clear hlt
            have hbgx : w1.heap.size ≤ gx := by omega
            clear hgx hsz
            replace hy := hy.stay0 s
            replace hst := hst.trans s
            clear s
            refine Shut.out hK _ _ hst (fun _ => ?_)
            clear hK
            refine wpAnyH_listedL #[true, true, true, true, true, true, false, false] (by kernel_rfl) ?_
            conv => arg 8; simp [Act.put]
            refine wpAnyH_one #[true, true, true, true, true, true, true, false] (i := 6) rfl (by kernel_rfl) (by kernel_rfl) (fun K hK => ?_)
            refine step_store_q q_sk rfl (.tmp 5) (.tmp 12) rfl gx rfl _ (skN a) rfl hx ?_
            intro wz hz s
            replace hy := hy.stay s (fun e => hne e.symm)
            replace hst : Stay (fun _ => False) w1 wz := stay_seal (X := fun k => k = gx) ((hst.mono (fun _ x => x.elim)).trans s) (fun k e => by have e' : k = gx := e; omega)
            clear s hx
            have hx := hz
            clear hz
            refine hK _ _ hst ?_
            clear hK
            conv => arg 8; simp [Act.put]
            refine wpAnyH_one #[true, true, true, true, true, true, true, true] (i := 7) rfl (by kernel_rfl) (by kernel_rfl) (fun K hK => ?_)
            refine step_store_q q_sk rfl (.tmp 6) (.tmp 14) rfl gy rfl _ (skN b) rfl hy ?_
            intro wz hz s
            replace hx := hx.stay s (fun e => hne e)
            replace hst : Stay (fun _ => False) w1 wz := stay_seal (X := fun k => k = gy) ((hst.mono (fun _ x => x.elim)).trans s) (fun k e => by have e' : k = gy := e; omega)
            clear s hy
            have hy := hz
            clear hz
            refine hK _ _ hst ?_
            clear hK
            conv => arg 8; simp [Act.put]
            refine wpAnyH_done (by kernel_rfl) ?_ _
            exact ⟨gx, gy, rfl, rfl, hx, hy, hst⟩
          exact AllReadyH.nil
        refine AllReadyH.cons (o := _) rfl (fun K hK => ?_) ?_
        · refine step_alloc_z rfl 27 rfl _ (q_sk.zero _) ?_
          have hx := QAt.new w3 27 (fun _ => 0)
          have hlt := hy.lt
          have hsz := hst.size
          have s : Stay (fun _ => False) w3 (w3.alloc (.cells (qC (fun _ => 0)).toArray 27)) := Stay.alloc _ _
          change K _ (w3.alloc (.cells (qC (fun _ => 0)).toArray 27))
          generalize w3.alloc (.cells (qC (fun _ => 0)).toArray 27) = w4 at hx s ⊢
          obtain ⟨gx, hgx⟩ : ∃ g, g = w3.heap.size := ⟨_, rfl⟩
          rw [← hgx] at hx ⊢
          have hne : gx ≠ gy := by omega
          clear hlt
          have hbgx : w1.heap.size ≤ gx := by omega
          clear hgx hsz
          replace hy := hy.stay0 s
          replace hst := hst.trans s
          clear s
          refine Shut.out hK _ _ hst (fun _ => ?_)
          clear hK
          refine wpAnyH_listedL #[true, true, true, false, true, true, false, false] (by kernel_rfl) ?_
          conv => arg 8; simp [Act.put]
          refine wpAnyH_ready (rs := [3]) (by kernel_rfl) (by simp) ?_
          refine AllReadyH.cons (o := _) rfl (fun K hK => ?_) ?_
          · go_simp
            go_wp2_with (go_at_call 9; refine (of_any b _ HB.out).mono ?_; rintro e w5 ⟨rfl, s⟩)
            replace hx := hx.stay0 s
            replace hy := hy.stay0 s
            replace hst := hst.trans s
            clear s
            refine Shut.out hK _ _ hst (fun _ => ?_)
            clear hK
            refine wpAnyH_listedL #[true, true, true, true, true, true, false, false] (by kernel_rfl) ?_
            conv => arg 8; simp [Act.put]
            refine wpAnyH_one #[true, true, true, true, true, true, true, false] (i := 6) rfl (by kernel_rfl) (by kernel_rfl) (fun K hK => ?_)
            refine step_store_q q_sk rfl (.tmp 5) (.tmp 12) rfl gx rfl _ (skN a) rfl hx ?_
            intro wz hz s
            replace hy := hy.stay s (fun e => hne e.symm)
            replace hst : Stay (fun _ => False) w1 wz := stay_seal (X := fun k => k = gx) ((hst.mono (fun _ x => x.elim)).trans s) (fun k e => by have e' : k = gx := e; omega)
            clear s hx
            have hx := hz
            clear hz
            refine hK _ _ hst ?_
            clear hK
            conv => arg 8; simp [Act.put]
            refine wpAnyH_one #[true, true, true, true, true, true, true, true] (i := 7) rfl (by kernel_rfl) (by kernel_rfl) (fun K hK => ?_)
            refine step_store_q q_sk rfl (.tmp 6) (.tmp 14) rfl gy rfl _ (skN b) rfl hy ?_
            intro wz hz s
            replace hx := hx.stay s (fun e => hne e)
            replace hst : Stay (fun _ => False) w1 wz := stay_seal (X := fun k => k = gy) ((hst.mono (fun _ x => x.elim)).trans s) (fun k e => by have e' : k = gy := e; omega)
            clear s hy
            have hy := hz
            clear hz
            refine hK _ _ hst ?_
            clear hK
            conv => arg 8; simp [Act.put]
            refine wpAnyH_done (by kernel_rfl) ?_ _
            exact ⟨gx, gy, rfl, rfl, hx, hy, hst⟩
          exact AllReadyH.nil
        exact AllReadyH.nil
      refine AllReadyH.cons (o := _) rfl (fun K hK => ?_) ?_
      · refine step_alloc_z rfl 27 rfl _ (q_sk.zero _) ?_
        have hx := QAt.new w2 27 (fun _ => 0)
        have hlt := hy.lt
        have hsz := hst.size
        have s : Stay (fun _ => False) w2 (w2.alloc (.cells (qC (fun _ => 0)).toArray 27)) := Stay.alloc _ _
        change K _ (w2.alloc (.cells (qC (fun _ => 0)).toArray 27))
        generalize w2.alloc (.cells (qC (fun _ => 0)).toArray 27) = w3 at hx s ⊢
        obtain ⟨gx, hgx⟩ : ∃ g, g = w2.heap.size := ⟨_, rfl⟩
        rw [← hgx] at hx ⊢
        have hne : gx ≠ gy := by omega
        clear hlt
        have hbgx : w1.heap.size ≤ gx := by omega
        clear hgx hsz
        replace hy := hy.stay0 s
        replace hst := hst.trans s
        clear s
        refine Shut.out hK _ _ hst (fun _ => ?_)
        clear hK
        refine wpAnyH_listedL #[true, false, true, false, true, true, false, false] (by kernel_rfl) ?_
        conv => arg 8; simp [Act.put]
        refine wpAnyH_ready (rs := [1]) (by kernel_rfl) (by simp) ?_
        refine AllReadyH.cons (o := _) rfl (fun K hK => ?_) ?_
        · go_simp
          go_wp2_with (go_at_call 9; refine (of_any a _ HA.out).mono ?_; rintro e w4 ⟨rfl, s⟩)
          replace hx := hx.stay0 s
          replace hy := hy.stay0 s
          replace hst := hst.trans s
          clear s
          refine Shut.out hK _ _ hst (fun _ => ?_)
          clear hK
          refine wpAnyH_listedL #[true, true, true, false, true, true, false, false] (by kernel_rfl) ?_
          conv => arg 8; simp [Act.put]
          refine wpAnyH_ready (rs := [3]) (by kernel_rfl) (by simp) ?_
          refine AllReadyH.cons (o := _) rfl (fun K hK => ?_) ?_
          · go_simp
            go_wp2_with (go_at_call 9; refine (of_any b _ HB.out).mono ?_; rintro e w5 ⟨rfl, s⟩)
            replace hx := hx.stay0 s
            replace hy := hy.stay0 s
            replace hst := hst.trans s
            clear s
            refine Shut.out hK _ _ hst (fun _ => ?_)
            clear hK
            refine wpAnyH_listedL #[true, true, true, true, true, true, false, false] (by kernel_rfl) ?_
            conv => arg 8; simp [Act.put]
            refine wpAnyH_one #[true, true, true, true, true, true, true, false] (i := 6) rfl (by kernel_rfl) (by kernel_rfl) (fun K hK => ?_)
            refine step_store_q q_sk rfl (.tmp 5) (.tmp 12) rfl gx rfl _ (skN a) rfl hx ?_
            intro wz hz s
            replace hy := hy.stay s (fun e => hne e.symm)
            replace hst : Stay (fun _ => False) w1 wz := stay_seal (X := fun k => k = gx) ((hst.mono (fun _ x => x.elim)).trans s) (fun k e => by have e' : k = gx := e; omega)
            clear s hx
            have hx := hz
            clear hz
            refine hK _ _ hst ?_
            clear hK
            conv => arg 8; simp [Act.put]
            refine wpAnyH_one #[true, true, true, true, true, true, true, true] (i := 7) rfl (by kernel_rfl) (by kernel_rfl) (fun K hK => ?_)
            refine step_store_q q_sk rfl (.tmp 6) (.tmp 14) rfl gy rfl _ (skN b) rfl hy ?_
            intro wz hz s
            replace hx := hx.stay s (fun e => hne e)
            replace hst : Stay (fun _ => False) w1 wz := stay_seal (X := fun k => k = gy) ((hst.mono (fun _ x => x.elim)).trans s) (fun k e => by have e' : k = gy := e; omega)
            clear s hy
            have hy := hz
            clear hz
            refine hK _ _ hst ?_
            clear hK
            conv => arg 8; simp [Act.put]
            refine wpAnyH_done (by kernel_rfl) ?_ _
            exact ⟨gx, gy, rfl, rfl, hx, hy, hst⟩
          exact AllReadyH.nil
        exact AllReadyH.nil
      exact AllReadyH.nil
    exact AllReadyH.nil
  case refine_1 =>
    rintro e a' W rfl gx gy rfl hx hy hst
    have BX := Lib.hid (H0.out.stay0 hst)
    have BY := Lib.hid (H1.out.stay0 hst)
    have QX := Lib.hid hx
    have QY := Lib.hid hy
    have HW := Lib.hid (HS.out.trans hst)
    clear hx hy hst W1 H0 H1 HS
    obtain ⟨D, hDd⟩ : ∃ D : World → Prop, D = Stay (fun _ => False) W := ⟨_, rfl⟩
    have HD := Lib.hid (show ∀ V, D V → Stay (fun _ => False) W V by intro V h; rw [hDd] at h; exact h)
    have HDm := Lib.hid (show ∀ V, Stay (fun _ => False) W V → D V by intro V h; rw [hDd]; exact h)
    clear hDd
    have HN0 := Lib.hid (HDm.out W.drew Stay.drew)
    have k1 := Lib.hid (fun i : InC D => q_sk.run_load (QX.out.stay0 (HD.out _ i.h)))
    have k2 := Lib.hid (fun i : InC D => q_sk.run_load (QY.out.stay0 (HD.out _ i.h)))
    have k3 := Lib.hid (fun i : InC D => arr_64.run_load HA.out (BX.out.stay0 (HD.out _ i.h)))
    have k4 := Lib.hid (fun i : InC D => arr_64.run_load HB.out (BY.out.stay0 (HD.out _ i.h)))
    have e1 := fun i : InC D => eq_blk i.w a b HA.out HB.out
    have e2 := fun i : InC D => eq_sk i.w (skN a) (skN b)
    have C1 := Lib.hid (show ∀ V, D V → Calls Try.prog 10 #[skV (skN a), skV (skN a)] V fun e w' => e = .returned (.int .i64 4) ∧ D w' from fun V hV => (like_any V (skN a) (skN a)).mono fun e w' ⟨h1, h2⟩ => ⟨by rw [h1, likeN_self]; rfl, HDm.out _ ((HD.out V hV).trans h2)⟩)
    have C2 := Lib.hid (show ∀ V, D V → Calls Try.prog 10 #[skV (skN a), skV (skN b)] V fun e w' => e = .returned (.int .i64 (likeN (skN a) (skN b) 4 : Int)) ∧ D w' from fun V hV => (like_any V (skN a) (skN b)).mono fun e w' ⟨h1, h2⟩ => ⟨h1, HDm.out _ ((HD.out V hV).trans h2)⟩)
    have C3 := Lib.hid (show ∀ V, D V → Calls Try.prog 10 #[skV (skN b), skV (skN a)] V fun e w' => e = .returned (.int .i64 (likeN (skN a) (skN b) 4 : Int)) ∧ D w' from fun V hV => (like_any V (skN b) (skN a)).mono fun e w' ⟨h1, h2⟩ => ⟨by rw [h1, likeN_comm], HDm.out _ ((HD.out V hV).trans h2)⟩)
    have hle := likeN_le (skN a) (skN b) 4
    haveI : Nonempty (InC D) := ⟨⟨_, HN0.out⟩⟩
    obtain ⟨m, hm⟩ : ∃ m, m = likeN (skN a) (skN b) 4 := ⟨_, rfl⟩
    rw [← hm] at C2 C3 hle
    clear hm
    have hab : (a == b) = true → eqQ (skN a) (skN b) = true := by
      intro h
      rw [eq_of_beq h]
      exact eqQ_self _
    generalize (a == b) = ab at e1 hab
    generalize eqQ (skN a) (skN b) = xy at e2 hab
    unfold arrV at e1 k3 k4
    unfold skV at e2 k1 k2 C1 C2 C3
    go_wp2_with (first
      | (refine Code.wp_mono (Q := fun e a' V => e = .normal ∧ ∃ t15 t16 t17 t18 t19 t20 t21 t22 t23 t24 t25 t26 t27 t28 t29 t30 t31 t32 t33 t34 t35 t36 : Value, a' = { tmps := #[.agg (cellsB a).toArray, .agg (cellsB b).toArray, .pointer (some ⟨w.heap.size, 0, none⟩), .pointer (some ⟨w.heap.size + 1, 0, none⟩), .bool false, .pointer (some ⟨gx, 0, none⟩), .pointer (some ⟨gy, 0, none⟩), undef, undef, undef, undef, arrV a, skV (skN a), arrV b, skV (skN b), t15, t16, t17, t18, t19, t20, t21, t22, t23, t24, t25, t26, t27, t28, t29, t30, t31, t32, t33, t34, t35, t36, .bool false, undef, undef, undef, undef, undef, undef, undef, undef, undef, undef, undef, undef, undef, undef, undef, undef, undef, undef, undef, undef, undef, undef, undef, undef, undef, undef, undef, undef, undef, undef, undef], defers := [] } ∧ Stay (fun _ => False) W V) ?next ?region))
    case region =>
      cases ab
      · clear hab
        refine wp_region_class D HN0.out (by kernel_rfl) (by kernel_rfl) ?_
        try go_frame
        repeat (first
          | (refine quiet_loadG (by rfl) 27 (.tmp 5) rfl ⟨gx, 0, none⟩ rfl _ k1.out ?_; go_frame)
          | (refine quiet_loadG (by rfl) 27 (.tmp 6) rfl ⟨gy, 0, none⟩ rfl _ k2.out ?_; go_frame)
          | (refine quiet_loadG (by rfl) 23 (.tmp 2) rfl ⟨w.heap.size, 0, none⟩ rfl _ k3.out ?_; go_frame)
          | (refine quiet_loadG (by rfl) 23 (.tmp 3) rfl ⟨w.heap.size + 1, 0, none⟩ rfl _ k4.out ?_; go_frame)
          | (go_big_quiet_step (first | with_reducible exact calls_class C1.out | with_reducible exact calls_class C2.out | with_reducible exact calls_class C3.out)))
        refine wpQuiet_nil ?_
        rintro V ⟨i, rfl⟩
        have hs := HD.out _ i.h
        exact ⟨rfl, _, _, _, _, _, _, _, _, _, _, _, _, _, _, _, _, _, _, _, _, _, _, rfl, hs⟩
      · obtain rfl : xy = true := hab rfl
        refine wp_region_class D HN0.out (by kernel_rfl) (by kernel_rfl) ?_
        try go_frame
        repeat (first
          | (refine quiet_loadG (by rfl) 27 (.tmp 5) rfl ⟨gx, 0, none⟩ rfl _ k1.out ?_; go_frame)
          | (refine quiet_loadG (by rfl) 27 (.tmp 6) rfl ⟨gy, 0, none⟩ rfl _ k2.out ?_; go_frame)
          | (refine quiet_loadG (by rfl) 23 (.tmp 2) rfl ⟨w.heap.size, 0, none⟩ rfl _ k3.out ?_; go_frame)
          | (refine quiet_loadG (by rfl) 23 (.tmp 3) rfl ⟨w.heap.size + 1, 0, none⟩ rfl _ k4.out ?_; go_frame)
          | (go_big_quiet_step (first | with_reducible exact calls_class C1.out | with_reducible exact calls_class C2.out | with_reducible exact calls_class C3.out)))
        refine wpQuiet_nil ?_
        rintro V ⟨i, rfl⟩
        have hs := HD.out _ i.h
        exact ⟨rfl, _, _, _, _, _, _, _, _, _, _, _, _, _, _, _, _, _, _, _, _, _, _, rfl, hs⟩
    case next =>
      clear k1 k2 k3 k4 e1 e2 C1 C2 C3 HD HDm HN0 hab
      rintro e a' V rfl t15 t16 t17 t18 t19 t20 t21 t22 t23 t24 t25 t26 t27 t28 t29 t30 t31 t32 t33 t34 t35 t36 rfl hv
      have BX2 := Lib.hid (BX.out.stay0 hv)
      have QX2 := Lib.hid (QX.out.stay0 hv)
      have HW2 := Lib.hid (HW.out.trans hv)
      have M1 := Lib.hid (show ∀ k j : Nat, j < 57 → skN a k ≤ winN (lowB (k : Int)) ((a.drop j).take 8) from fun k j h => leastN_le _ a 57 j h)
      have M2 := Lib.hid (show ∀ k : Nat, hitN (lowB (k : Int)) a (skN a k) 57 = true from hitN_least a)
      clear hv BX BY QX QY HW
      generalize skN a = sa at *
      generalize skN b = sb at *
      go_wp2
      go_loopw [7] (fun i wr => ∃ k : Nat, k ≤ 4 ∧ i = .int .i64 (k : Int) ∧ BAt wr w.heap.size 23 a ∧ QAt wr gx 27 (sa) ∧ Stay (fun _ => False) w wr) (fun i _ => 4 - (intOf i).toNat)
      case atStart => exact ⟨0, by omega, rfl, BX2.out, QX2.out, HW2.out⟩
      case round =>
        obtain ⟨k, hk, rfl, hf, hq, hst⟩ := hrel
        have KF := Lib.hid hf
        have KQ := Lib.hid hq
        have HST := Lib.hid hst
        clear hf hq hst
        obtain ⟨wo, rfl⟩ : ∃ wo, wo = wr := ⟨_, rfl⟩
        by_cases hlt : k < 4
        · have hdk : decide ((k : Int) < 4) = true := decide_eq_true (by omega)
          go_wp2
          go_loopw [8, 9] (fun v i wr => ∃ j : Nat, j ≤ 57 ∧ i = .int .i64 (j : Int) ∧ v = .bool (hitN (lowB (k : Int)) a (sa k) j) ∧ Stay (fun _ => False) wo wr) (fun _ i _ => 57 - (intOf i).toNat)
          case atStart => exact ⟨0, by omega, rfl, rfl, Stay.refl _ _⟩
          case round =>
            obtain ⟨j, hj, rfl, rfl, hst⟩ := hrel
            by_cases hlt2 : j < 57
            · have HN := Lib.hid (show hitN (lowB (k : Int)) a (sa k) (j + 1) = (hitN (lowB (k : Int)) a (sa k) j || decide (winN (lowB (k : Int)) ((a.drop j).take 8) = sa k)) from rfl)
              have hw := winN_lt (lowB (k : Int)) ((a.drop j).take 8)
              have HM := Lib.hid (M1.out k j hlt2)
              have KFr := KF.out.stay0 hst
              have HX := Lib.hid (KFr.part (i := j) (n := 8) (c := 64 - j) (by rw [HA.out]; omega) (by omega) (by omega))
              have ks := run_win wr w.heap.size j (by omega)
              have HSI := Lib.hid hst
              clear hst KFr
              go_wp2_with fail
              refine (window_any (k : Int) _ _ wr HX.out).mono ?_
              rintro e w2 ⟨rfl, s2⟩
              have hc := ((KQ.out.stay0 HSI.out).stay0 s2).c hlt
              have HS2 := Lib.hid (HSI.out.trans s2)
              clear s2 ks
              unfold u32V
              generalize winN (lowB (k : Int)) ((a.drop j).take 8) = m1 at *
              generalize hitN (lowB (k : Int)) a (sa k) j = ht at *
              have hmin := HM.out
              have hnl : decide ((m1 : Int) < (sa k : Int)) = false := decide_eq_false (by omega)
              cases ht
              · by_cases he : m1 = sa k
                · subst he
                  rw [show (false || decide (sa k = sa k)) = true by simp] at HN
                  go_wp2
                  refine ⟨⟨j + 1, by omega, by go_num, by rw [HN.out], HS2.out⟩, by simp [intOf]; omega⟩
                · rw [show (false || decide (m1 = sa k)) = false by simp [he]] at HN
                  have hb : ((m1 : Int) == (sa k : Int)) = false := beq_eq_false_iff_ne.2 (fun h => he (by omega))
                  clear he
                  go_wp2
                  refine ⟨⟨j + 1, by omega, by go_num, by rw [HN.out], HS2.out⟩, by simp [intOf]; omega⟩
              · rw [show (true || decide (m1 = sa k)) = true by simp] at HN
                go_wp2
                refine ⟨⟨j + 1, by omega, by go_num, by rw [HN.out], HS2.out⟩, by simp [intOf]; omega⟩
            · obtain rfl : j = 57 := by omega
              have KF2 := Lib.hid (KF.out.stay0 hst)
              have KQ2 := Lib.hid (KQ.out.stay0 hst)
              have HS2 := Lib.hid (HST.out.trans hst)
              have hh := M2.out k
              generalize hitN (lowB (k : Int)) a (sa k) 57 = ht at *
              subst hh
              clear hst
              go_wp2
              refine ⟨⟨k + 1, by omega, by go_num, KF2.out, KQ2.out, HS2.out⟩, by simp [intOf]; omega⟩
        · obtain rfl : k = 4 := by omega
          go_wp2_with fail
          refine (sure_any wo).mono ?_
          rintro e w4 ⟨rfl, s4⟩
          have HS4 := Lib.hid (HST.out.trans s4)
          clear s4
          go_wp2
          go_ret
          exact ⟨rfl, HS4.out⟩
end Go.Proofs.Ytddgkckgbmgghaa.Sk
