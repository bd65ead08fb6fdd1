/-
  toggle: Load.
-/
import Derived.Test.YtlmaooeeklhelaaGreatDoorTgG
import Derived.Test.YtlmaooeeklhelaaGreatDoorTgJ
namespace Go.Proofs.YtlmaooeeklhelaaGreatDoor.Tg
open Go.RowKit Pk
set_option maxRecDepth 100000

theorem tell_ok {l : List UInt8} {room n m : Nat} {b : Bool} (h : tellD l room = ((n, b, m), 0)) : 1 ≤ n ∧ n ≤ topN ∧ m ≤ room := by
  unfold tellD at h
  split at h
  · cases h
  split at h
  · cases h
  · rename_i h2
    have e1 : (takeB (numB topN) 0 ⟨l, 0⟩).1 = n := congrArg (fun x => x.1.1) h
    have e3 : (takeB (numB room) 0 (takeB truB false (takeB (numB topN) 0 ⟨l, 0⟩).2).2).1 = m := congrArg (fun x => x.1.2.2) h
    have h3 := take_num_le topN ⟨l, 0⟩
    have h4 := take_num_le room (takeB truB false (takeB (numB topN) 0 ⟨l, 0⟩).2).2
    rw [e1] at h3 h2
    rw [e3] at h4
    exact ⟨by omega, h3, h4⟩

theorem tell_codes {l : List UInt8} {room : Nat} : (tellD l room).2 = 0 ∨ (tellD l room).2 = 3 ∨ tellD l room = ((0, false, 0), 8) := by
  unfold tellD
  split
  · exact .inr (.inr rfl)
  split
  · exact .inr (.inl rfl)
  · exact .inl rfl

theorem ask_ok {d : DS} {f s : Int} {n m : Nat} {b : Bool} (h : askD d f s = ((n, b, m), 0)) : inB f s d.n = true ∧ ¬ down d = true ∧ 1 ≤ n ∧ n ≤ topN ∧ m ≤ (roomI s).toNat := by
  unfold askD at h
  split at h
  · cases h
  split at h
  · cases h
  · rename_i h1 h2
    exact ⟨by simpa using h1, h2, tell_ok h⟩

/-- Load, as a function: the bytes, the number, an error's number. -/
def loadD (d : DS) (f s : Int) : List UInt8 × Nat × Nat :=
  if (askD d f s).2 = 0 then (bytesB d (placeI f s (askD d f s).1.2.1).toNat (askD d f s).1.2.2, (askD d f s).1.1, 0) else ([], 0, (askD d f s).2)

theorem place_in {f s : Int} {n m : Nat} {b : Bool} (h0 : 0 ≤ f) (h1 : 3 ≤ s) (h2 : f ≤ n - s) (hn : n ≤ 16384) (hm : m ≤ (roomI s).toNat) : (placeI f s b).toNat + parts m ≤ n ∧ 1 ≤ placeI f s b ∧ placeI f s b ≤ 32768 ∧ m ≤ 1048576 := by
  have e : roomI s = 64 * ((s - 1) / 2) := if_neg (by omega)
  rw [e] at hm
  have e2 : placeI f s b = f + 1 ∨ placeI f s b = f + 1 + (s - 1) / 2 := by unfold placeI; cases b <;> simp
  unfold parts
  omega

set_option maxHeartbeats 2000000 in
theorem load_any (w : World) (pd ps pm : Nat) (d : DS) (f s : Int) (h : DevAt w pd ps pm d) (hf : I64 f) (hs : I64 s) :
    Calls Tryz.prog 19 #[.pointer (some ⟨pd, 0, none⟩), areaV f s] w fun e w' => ∃ v, e = .returned (.tuple #[v, .int .u64 ((loadD d f s).2.1 : Nat), errV (loadD d f s).2.2]) ∧ Owns w.heap.size w' v (loadD d f s).1 ∧ Stay (fun _ => False) w w' := by
  have hn2 := h.n2
  have hask := fun W (hW : Stay (fun _ => False) w W) => ask_any W pd ps pm d f s (h.stay hW (fun x => x) (fun x => x) (fun x => x)) hf hs
  have HD := Lib.hid h
  by_cases hc : (askD d f s).2 = 0
  · have e1 : loadD d f s = (bytesB d (placeI f s (askD d f s).1.2.1).toNat (askD d f s).1.2.2, (askD d f s).1.1, 0) := if_pos hc
    rw [e1]
    clear e1
    have hok := @ask_ok d f s
    generalize askD d f s = T at *
    obtain ⟨⟨tn, tb, tm⟩, tc⟩ := T
    dsimp only at hc hask ⊢
    subst hc
    obtain ⟨hib, hup, _, htn, htm⟩ := hok rfl
    obtain ⟨f0, s3, fn⟩ := inB_spec (by rw [hib]; simp : ¬ inB f s d.n = false)
    obtain ⟨hp1, hp2, hp3, hp4⟩ := place_in (b := tb) f0 s3 fn hn2 htm
    obtain ⟨pl, hpl⟩ : ∃ pl : Nat, placeI f s tb = (pl : Int) := ⟨(placeI f s tb).toNat, by omega⟩
    have hplace := fun W => place_any f s tb W f0 (by omega) s3 (by omega)
    rw [hpl] at hplace
    have e5 : (placeI f s tb).toNat = pl := by omega
    rw [e5] at hp1 ⊢
    have hread := fun W (hW : Stay (fun _ => False) w W) => read_bytes W pd ps pm d pl tm (h.stay hW (fun x => x) (fun x => x) (fun x => x)) hup hp1 hp4
    unfold areaV at hplace hask ⊢
    simp only [errV_zero] at hask ⊢
    unfold tellW at hask
    have HPL := Lib.hid hplace
    have HRD0 := Lib.hid hread
    have HASK := Lib.hid hask
    clear hplace hread hask hok h hib htm fn hp1 hpl e5
    go_enter Tryz.func19, Tryz.ntmps19
    go_wp2_with (
      go_at_call 33
      refine (HASK.out _ (Stay.alloc _ _)).mono ?_
      rintro e w2 ⟨rfl, hs2⟩
      have HA2 := Lib.hid ((hs2.block _ (by simp) (fun x => x)).trans (heap_alloc_new w _))
      have HS2 := Lib.hid ((Stay.alloc w _).trans hs2)
      clear hs2)
    obtain ⟨B, hB⟩ : ∃ B, w2.heap.size = B := ⟨_, rfl⟩
    obtain ⟨w3, hw3⟩ : ∃ w3, w2.alloc (.cells #[.int .u64 (tn : Int), .bool tb, .int .i64 (tm : Int)] 77) = w3 := ⟨_, rfl⟩
    have HB3 := Lib.hid (show w3.heap[B]? = some (.cells #[.int .u64 (tn : Int), .bool tb, .int .i64 (tm : Int)] 77 (0, 0)) by rw [← hw3, ← hB]; exact heap_alloc_new w2 _)
    have HA3 := Lib.hid (show w3.heap[w.heap.size]? = some (.cells #[.int .i64 f, .int .i64 s] 36 (0, 0)) by rw [← hw3, Below.heap_alloc _ _ _ (lt_of_block HA2.out)]; exact HA2.out)
    have HS3 := Lib.hid (show Stay (fun _ => False) w w3 by rw [← hw3]; exact HS2.out.trans (Stay.alloc _ _))
    obtain ⟨S, hSd⟩ : ∃ S : World → Prop, S = Stay (fun _ => False) w3 := ⟨_, rfl⟩
    have HS := Lib.hid (show ∀ W, S W → Stay (fun _ => False) w3 W by intro W h; rw [hSd] at h; exact h)
    have HSm := Lib.hid (show ∀ W, Stay (fun _ => False) w3 W → S W by intro W h; rw [hSd]; exact h)
    have HS0 := Lib.hid (HSm.out w3.drew Stay.drew)
    have hrowA := fun W (h : S W) => ((HS.out W h).block _ (lt_of_block HA3.out) (fun x => x)).trans HA3.out
    have hrowB := fun W (h : S W) => ((HS.out W h).block _ (lt_of_block HB3.out) (fun x => x)).trans HB3.out
    have HA0 := Lib.hid (show ∀ W, S W → W.cell? ⟨w.heap.size, 0, none⟩ = some (.int .i64 f) from fun W h => cell_of_row W _ 0 _ _ _ (hrowA W h))
    have HA1 := Lib.hid (show ∀ W, S W → W.cell? ⟨w.heap.size, 1, none⟩ = some (.int .i64 s) from fun W h => cell_of_row W _ 1 _ _ _ (hrowA W h))
    have HT0 := Lib.hid (show ∀ W, S W → W.cell? ⟨B, 0, none⟩ = some (.int .u64 (tn : Int)) from fun W h => cell_of_row W _ 0 _ _ _ (hrowB W h))
    have HT1 := Lib.hid (show ∀ W, S W → W.cell? ⟨B, 1, none⟩ = some (.bool tb) from fun W h => cell_of_row W _ 1 _ _ _ (hrowB W h))
    have HT2 := Lib.hid (show ∀ W, S W → W.cell? ⟨B, 2, none⟩ = some (.int .i64 (tm : Int)) from fun W h => cell_of_row W _ 2 _ _ _ (hrowB W h))
    clear hSd hrowA hrowB
    have HRD := Lib.hid (show ∀ W, Stay (fun _ => False) w3 W → Calls Tryz.prog 44 #[.pointer (some ⟨pd, 0, none⟩), .int .i64 pl, .int .i64 tm] W fun e w' => ∃ v, e = .returned (.tuple #[v, .nilIface]) ∧ Owns W.heap.size w' v (bytesB d pl tm) ∧ Stay (fun _ => False) W w' from fun W h => HRD0.out W (HS3.out.trans h))
    rw [hB, hw3]
    refine wp_region_held (S := S) (by kernel_rfl) ?_
    change wpAnyH _ _ _ _ _ _ _ _ (World.drew _)
    refine wpAnyH_takeL (i := 0) (v := .pointer (some ⟨pd, 0, none⟩)) #[true, false, false, false, false, false, false, false, false, false, false, false, false] rfl (by kernel_rfl) (by kernel_rfl) (by kernel_rfl) (fun _ _ _ h => h) (by kernel_rfl) HS0.out (Or.inl ⟨by rfl, fun W hW => ?_⟩) ?_
    · go_simp
    conv =>
      arg 8
      simp [Act.put]
    refine wpAnyH_takeL (i := 1) (v := .agg #[.int .i64 f, .int .i64 s]) #[true, true, false, false, false, false, false, false, false, false, false, false, false] rfl (by kernel_rfl) (by kernel_rfl) (by kernel_rfl) (fun _ _ _ h => h) (by kernel_rfl) HS0.out (Or.inl ⟨by rfl, fun W hW => ?_⟩) ?_
    · have k0 := HA0.out W hW
      have k1 := HA1.out W hW
      go_simp
    conv =>
      arg 8
      simp [Act.put]
    refine wpAnyH_takeL (i := 2) (v := .pointer (some ⟨B, 1, none⟩)) #[true, true, true, false, false, false, false, false, false, false, false, false, false] rfl (by kernel_rfl) (by kernel_rfl) (by kernel_rfl) (fun _ _ _ h => h) (by kernel_rfl) HS0.out (Or.inl ⟨by rfl, fun W hW => ?_⟩) ?_
    · go_simp
    conv =>
      arg 8
      simp [Act.put]
    refine wpAnyH_takeL (i := 3) (v := .bool tb) #[true, true, true, true, false, false, false, false, false, false, false, false, false] rfl (by kernel_rfl) (by kernel_rfl) (by kernel_rfl) (fun _ _ _ h => h) (by kernel_rfl) HS0.out (Or.inl ⟨by rfl, fun W hW => ?_⟩) ?_
    · have k0 := HT1.out W hW
      go_simp
    conv =>
      arg 8
      simp [Act.put]
    refine wpAnyH_takeL (i := 5) (v := .pointer (some ⟨B, 2, none⟩)) #[true, true, true, true, false, true, false, false, false, false, false, false, false] rfl (by kernel_rfl) (by kernel_rfl) (by kernel_rfl) (fun _ _ _ h => h) (by kernel_rfl) HS0.out (Or.inl ⟨by rfl, fun W hW => ?_⟩) ?_
    · go_simp
    conv =>
      arg 8
      simp [Act.put]
    refine wpAnyH_takeL (i := 6) (v := .int .i64 (tm : Int)) #[true, true, true, true, false, true, true, false, false, false, false, false, false] rfl (by kernel_rfl) (by kernel_rfl) (by kernel_rfl) (fun _ _ _ h => h) (by kernel_rfl) HS0.out (Or.inl ⟨by rfl, fun W hW => ?_⟩) ?_
    · have k0 := HT2.out W hW
      go_simp
    conv =>
      arg 8
      simp [Act.put]
    refine wpAnyH_one #[true, true, true, true, true, true, true, false, false, false, false, false, false] (i := 4) rfl (by kernel_rfl) (by kernel_rfl) (fun K hK => ?_)
    go_simp
    go_wp2_with (
      go_at_call 37
      refine (HPL.out _).mono ?_
      rintro e w4 ⟨rfl, hs4⟩
      have HS4 := Lib.hid ((Stay.drew (X := fun _ => False) (w := w3)).trans hs4)
      clear hs4)
    refine hK _ _ ?_ ?_
    · exact HSm.out _ HS4.out
    conv =>
      arg 8
      simp [Act.put]
    refine wpAnyH_one #[true, true, true, true, true, true, true, true, false, false, false, false, false] (i := 7) rfl (by kernel_rfl) (by kernel_rfl) (fun K hK => ?_)
    go_simp
    go_wp2_with (
      go_at_call 44
      refine (HRD.out w4 HS4.out).mono ?_
      rintro e w5 ⟨v5, rfl, ho5, hs5⟩
      have HO5 := Lib.hid ho5
      have HS5 := Lib.hid (HS4.out.trans hs5)
      clear ho5 hs5)
    refine hK _ _ ?_ ?_
    · exact HSm.out _ HS5.out
    conv =>
      arg 8
      simp [Act.put]
    refine wpAnyH_takeL (i := 8) (v := .tuple #[v5, .nilIface]) #[true, true, true, true, true, true, true, true, true, false, false, false, false] rfl (by kernel_rfl) (by kernel_rfl) (by kernel_rfl) (fun _ _ _ h => h) (by kernel_rfl) (HSm.out _ HS5.out) (Or.inl ⟨by rfl, fun W hW => ?_⟩) ?_
    · go_simp
    conv =>
      arg 8
      simp [Act.put]
    refine wpAnyH_takeL (i := 9) (v := v5) #[true, true, true, true, true, true, true, true, true, true, false, false, false] rfl (by kernel_rfl) (by kernel_rfl) (by kernel_rfl) (fun _ _ _ h => h) (by kernel_rfl) (HSm.out _ HS5.out) (Or.inl ⟨by rfl, fun W hW => ?_⟩) ?_
    · go_simp
    conv =>
      arg 8
      simp [Act.put]
    refine wpAnyH_takeL (i := 10) (v := .nilIface) #[true, true, true, true, true, true, true, true, true, true, true, false, false] rfl (by kernel_rfl) (by kernel_rfl) (by kernel_rfl) (fun _ _ _ h => h) (by kernel_rfl) (HSm.out _ HS5.out) (Or.inl ⟨by rfl, fun W hW => ?_⟩) ?_
    · go_simp
    conv =>
      arg 8
      simp [Act.put]
    refine wpAnyH_takeL (i := 11) (v := v5) #[true, true, true, true, true, true, true, true, true, true, true, true, false] rfl (by kernel_rfl) (by kernel_rfl) (by kernel_rfl) (fun _ _ _ h => h) (by kernel_rfl) (HSm.out _ HS5.out) (Or.inl ⟨by rfl, fun W hW => ?_⟩) ?_
    · go_simp
    conv =>
      arg 8
      simp [Act.put]
    refine wpAnyH_takeL (i := 12) (v := .nilIface) #[true, true, true, true, true, true, true, true, true, true, true, true, true] rfl (by kernel_rfl) (by kernel_rfl) (by kernel_rfl) (fun _ _ _ h => h) (by kernel_rfl) (HSm.out _ HS5.out) (Or.inl ⟨by rfl, fun W hW => ?_⟩) ?_
    · go_simp
    conv =>
      arg 8
      simp [Act.put]
    refine wpAnyH_done (by kernel_rfl) ?_ _
    have ct0 := HT0.out w5 (HSm.out _ HS5.out)
    have HO := Lib.hid (Owns.base (base' := w.heap.size) HO5.out (fun k hk => Nat.le_trans (HS3.out.trans HS4.out).size (HO5.out.lt k hk).1))
    have HF := Lib.hid (HS3.out.trans HS5.out)
    go_wp2
    go_quiet (fail)
    go_wp2
    go_ret3
    exact ⟨v5, rfl, HO.out.stay0 (stay_drewN _ _), HF.out.trans (stay_drewN _ _)⟩
  · have e1 : loadD d f s = ([], 0, (askD d f s).2) := if_neg hc
    rw [e1]
    clear e1
    generalize askD d f s = T at *
    obtain ⟨⟨tn, tb, tm⟩, tc⟩ := T
    dsimp only at hc hask ⊢
    rw [errV_pos hc] at hask ⊢
    unfold areaV at hask ⊢
    unfold tellW errI at hask
    unfold errI
    have HASK := Lib.hid hask
    clear hask h
    go_enter Tryz.func19, Tryz.ntmps19
    go_wp2_with (
      go_at_call 33
      refine (HASK.out _ (Stay.alloc _ _)).mono ?_
      rintro e w2 ⟨rfl, hs2⟩
      have HS2 := Lib.hid ((Stay.alloc w _).trans hs2)
      clear hs2)
    go_ret3
    exact ⟨_, rfl, Owns.nil _ _, HS2.out.trans (Stay.alloc _ _)⟩

end Go.Proofs.YtlmaooeeklhelaaGreatDoor.Tg
