/-
  rs's laws: long, twins, lists.
-/
import Derived.Test.YtaldpfamgfchoaaDoorRsT
namespace Go.Proofs.YtaldpfamgfchoaaDoor.Rs
open Go.ChangeShapes Go.WideShapes Go.ChangeAt Go.RowKit Go.Deep Gf
set_option maxRecDepth 100000

/-- Are there too many bytes, or too many rows? -/
def longB (n : Nat) (L : Nat → Nat) : Bool := !(decide (n ≤ 65) && decide (sumN L n ≤ 4000))
theorem longB_false {n : Nat} {L : Nat → Nat} (h : longB n L = false) : n ≤ 65 ∧ sumN L n ≤ 4000 := by
  unfold longB at h
  simpa using h
theorem longB_true {n t : Nat} {L : Nat → Nat} (ht : t < n) (h : 64 < t ∨ 4000 < sumN L (t + 1)) : longB n L = true := by
  unfold longB
  rcases h with h | h
  · have : ¬ n ≤ 65 := by omega
    simp [this]
  · have h1 := sumN_le L (n := n) (t := t + 1) (by omega)
    have : ¬ sumN L n ≤ 4000 := by omega
    simp [this]
theorem longB_of {n : Nat} {L : Nat → Nat} (h1 : n ≤ 65) (h2 : sumN L n ≤ 4000) : longB n L = false := by unfold longB; simp [h1, h2]

set_option maxHeartbeats 2000000 in
theorem long_any (w : World) (x : Value) (n : Nat) (L : Nat → Nat) (M : Nat → Nat → UInt8) (hx : SM (fun _ => False) w x n L M) (hL : ∀ k, k < n → L k ≤ 140737488355328) :
    Calls Tryd.prog 20 #[x] w fun e w' => e = .returned (.bool (longB n L)) ∧ w' = w := by
  obtain ⟨a0, c, rfl, hnc, hc⟩ := hx.form
  have q0 : (n : Int) ≤ 9223372036854775807 := by omega
  have HX := Lib.hid hx
  have HL := Lib.hid hL
  clear hx hnc hc hL
  go_enter Tryd.func20, Tryd.ntmps20
  go_wp2
  go_loopw [3, 4] (fun v i wr => ∃ t : Nat, t ≤ n ∧ i = .int .i64 (t : Int) ∧ v = .int .i64 (sumN L t : Int) ∧ t ≤ 65 ∧ sumN L t ≤ 4000 ∧ wr = w) (fun _ i _ => n - (intOf i).toNat)
  case atStart => exact ⟨0, by omega, rfl, rfl, by omega, Nat.zero_le _, rfl⟩
  case round =>
    obtain ⟨t, ht, rfl, rfl, h65, h4, hwr⟩ := hrel
    have hwr2 := hwr.symm
    subst hwr2
    by_cases hlt : t < n
    · have q1 : (t : Int) < (n : Int) := by omega
      obtain ⟨b, o, ak, ck, rfl, cR, _, _⟩ := HX.out.row hlt
      have k1 := cR.now
      have hL2 := HL.out t hlt
      obtain ⟨s, hs⟩ : ∃ s, s = sumN L t := ⟨_, rfl⟩
      obtain ⟨l, hl⟩ : ∃ l, l = L t := ⟨_, rfl⟩
      have hs2 : sumN L (t + 1) = s + l := by rw [hs, hl]; rfl
      rw [← hl] at k1 hL2
      rw [← hs] at h4 ⊢
      obtain ⟨u, hu⟩ : ∃ u, u = s + l := ⟨_, rfl⟩
      have q2 : (s : Int) + (l : Int) = (u : Int) := by omega
      have q3 : (u : Int) ≤ 140737488359328 := by omega
      have HU := Lib.hid (show sumN L (t + 1) = u by rw [hs2, hu])
      have HT := Lib.hid hlt
      have H65 := Lib.hid h65
      clear hlt cR hL2 hs hl hs2 hu h4 h65
      by_cases h1 : 64 < t
      · have q4 : (64 : Int) < (t : Int) := by omega
        have HB := Lib.hid (longB_true (L := L) HT.out (.inl h1))
        clear h1
        go_wp2
        go_ret
        exact ⟨by rw [HB.out]; rfl, rfl⟩
      · have q4 : ¬ (64 : Int) < (t : Int) := by omega
        by_cases h2 : 4000 < u
        · have q5 : (4000 : Int) < (u : Int) := by omega
          have HB := Lib.hid (longB_true (L := L) HT.out (.inr (by rw [HU.out]; exact h2)))
          clear h1 h2
          go_wp2
          go_ret
          exact ⟨by rw [HB.out]; rfl, rfl⟩
        · have q5 : ¬ (4000 : Int) < (u : Int) := by omega
          have H1 := Lib.hid (show t + 1 ≤ 65 by omega)
          have H2 := Lib.hid (show sumN L (t + 1) ≤ 4000 by rw [HU.out]; omega)
          clear h1 h2
          go_wp2
          have ht := HT.out
          first
            | exact ⟨⟨t + 1, by omega, by go_num, by rw [HU.out], H1.out, H2.out, by first | rfl | trivial⟩, by simp [intOf]; omega⟩
            | (go_round
               case rel => exact ⟨t + 1, by omega, by go_num, by rw [HU.out], H1.out, H2.out, by first | rfl | trivial⟩
               case measure => simp [intOf]; omega)
    · have htn : t = n := by omega
      subst htn
      have HB := Lib.hid (longB_of h65 h4)
      clear h65 h4 hlt
      go_wp2
      go_ret
      exact ⟨by rw [HB.out]; rfl, rfl⟩

set_option maxHeartbeats 2000000 in
theorem twins_any (w : World) (x : Value) (n : Nat) (L : Nat → Nat) (M : Nat → Nat → UInt8) (hx : SM (fun _ => False) w x n L M) (hn : n ≤ 65535) (hL : ∀ k, k < n → L k ≤ 140737488355328) :
    Calls Tryd.prog 21 #[x] w fun e w' => ∃ v, e = .returned v ∧ SM (fun i => i < w.heap.size) w' v n L M ∧ Stay (fun _ => False) w w' := by
  obtain ⟨a0, c, rfl, _⟩ := hx.form
  obtain ⟨i0, hi, hz0, hz1, hz2⟩ := info_parts info5
  have HI := Lib.hid hi
  have HZ0 := Lib.hid hz0
  have HZ1 := Lib.hid hz1
  have HZ2 := Lib.hid hz2
  have q0 : (n : Int) ≤ 65535 := by omega
  have HX := Lib.hid hx
  have HL := Lib.hid hL
  have HN := Lib.hid hn
  clear hx hL hn hi hz0 hz1 hz2
  go_enter Tryd.func21, Tryd.ntmps21
  go_wp2
  go_loopw [3, 4] (fun v i wr => ∃ t : Nat, t ≤ n ∧ i = .int .i64 (t : Int) ∧ AL (fun i => i < w.heap.size) w.heap.size wr v t L M ∧ Stay (fun _ => False) w wr) (fun _ i _ => n - (intOf i).toNat)
  case atStart => exact ⟨0, by omega, rfl, AL.nil _ _ _ _ _, Stay.refl _ _⟩
  case round =>
    obtain ⟨t, ht, rfl, hal, hst⟩ := hrel
    by_cases hlt : t < n
    · have q1 : (t : Int) < (n : Int) := by omega
      obtain ⟨b, o, ak, ck, rfl, cR, sR, _⟩ := HX.out.row hlt
      have k1 := (cR.stay hst).now
      have HS := Lib.hid ((sR.stay hst).now)
      have HAL := Lib.hid hal
      have HLO := Lib.hid hal.lt
      have HST := Lib.hid hst
      have HT := Lib.hid hlt
      clear hal hst hlt cR sR
      go_wp2_with (first
        | (at_builtin
           refine wpList_append_slc rfl (.tmp 13) (.tmp 17) 38 rfl wr.heap.size i0 Tryd.underlying38 HI.out HZ0.out HZ1.out HZ2.out (.slice none 0 0) (.slice ak (L t) ck) [] (lf (L t) (M t)) rfl rfl (Owns.nil _ _) HS.out (by rw [length_lf]; have := HL.out t HT.out; simp; omega) (Nat.le_refl _) ?_
           intro v2 w2 o2 g2 _
           have S2 := Lib.hid (show Stay (fun _ => False) wr w2 from Stay.grown g2 (fun k e => by cases e))
           rw [List.nil_append] at o2
           obtain ⟨a2, c2, rfl⟩ := o2.form
           rw [length_lf] at o2 ⊢
           have O2 := Lib.hid o2
           have AL2 := Lib.hid (HAL.out.stay0 S2.out)
           clear o2 g2)
        | (at_builtin
           refine append_l (w := w2) rfl (.tmp 12) (.tmp 19) rfl rfl rfl AL2.out ⟨_, _, _, rfl⟩ (Owns.ss O2.out (fun i e => by
             rcases e with e | e
             · have := HST.out.size; omega
             · exact (HLO.out i e).2)) (fun i e => by have := HST.out.size; have := S2.out.size; omega) ((HST.out.trans S2.out).size) (by have := HT.out; have := HN.out; omega) ?_
           intro v4 w4 h4 s4 o4
           have H4 := Lib.hid h4
           have S4 := Lib.hid (stay_grow (HST.out.trans S2.out) s4 (fun i e => (HLO.out i e).1))
           clear h4 s4 o4))
      have ht := HT.out
      first
        | exact ⟨⟨t + 1, by omega, by go_num, H4.out, S4.out⟩, by simp [intOf]; omega⟩
        | (go_round
           case rel => exact ⟨t + 1, by omega, by go_num, H4.out, S4.out⟩
           case measure => simp [intOf]; omega)
    · obtain rfl : t = n := by omega
      have HAL := Lib.hid hal.read
      have HST := Lib.hid hst
      clear hal hst
      go_wp2
      go_ret
      exact ⟨_, rfl, HAL.out, HST.out⟩

set_option maxHeartbeats 2000000 in
theorem lists_same (w : World) (x y : Value) (n : Nat) (L : Nat → Nat) (M : Nat → Nat → UInt8) (hx : SM (fun _ => False) w x n L M) (hy : SM (fun _ => False) w y n L M) :
    Calls Tryd.prog 25 #[x, y] w fun e w' => e = .returned (.bool true) ∧ Stay (fun _ => False) w w' := by
  obtain ⟨a0, c, rfl, hnc, hc⟩ := hx.form
  obtain ⟨a1, c1, rfl, _⟩ := hy.form
  have q0 : (n : Int) ≤ 9223372036854775807 := by omega
  have q9 : ((n : Int) != (n : Int)) = false := by simp
  have HX := Lib.hid hx
  have HY := Lib.hid hy
  clear hx hy hnc hc
  go_enter Tryd.func25, Tryd.ntmps25
  go_wp2
  go_loopw [5] (fun i wr => ∃ t : Nat, t ≤ n ∧ i = .int .i64 (t : Int) ∧ Stay (fun _ => False) w wr) (fun i _ => n - (intOf i).toNat)
  case atStart => exact ⟨0, by omega, rfl, Stay.refl _ _⟩
  case round =>
    obtain ⟨t, ht, rfl, hst⟩ := hrel
    by_cases hlt : t < n
    · have q1 : (t : Int) < (n : Int) := by omega
      obtain ⟨b, o, ak, ck, rfl, cR, sR, _⟩ := HX.out.row hlt
      obtain ⟨b1, o1, ak1, ck1, rfl, cR1, sR1, _⟩ := HY.out.row hlt
      have hst2 := hst.trans (Stay.drew (X := fun _ => False))
      have k1 := (cR.stay hst2).now
      have k2 := (cR1.stay hst2).now
      have z1 : ∀ W0, Stay (fun _ => False) wr W0 → _ := fun W0 h => conv_slc ((sR.stay hst).stay h).now
      have z2 : ∀ W0, Stay (fun _ => False) wr W0 → _ := fun W0 h => conv_slc ((sR1.stay hst).stay h).now
      have y1 := z1 _ Stay.drew
      have y2 := z2 _ Stay.drew
      have HST := Lib.hid hst
      have HT := Lib.hid hlt
      obtain ⟨S, hS⟩ : ∃ S, S = strV (lf (L t) (M t)) := ⟨_, rfl⟩
      rw [← hS] at y1 y2
      have hst' := hS
      unfold strV at hst'
      obtain ⟨ba, hba⟩ : ∃ ba : ByteArray, ba = ⟨(lf (L t) (M t)).toArray⟩ := ⟨_, rfl⟩
      rw [← hba] at hst'
      subst hst'
      clear hst hlt cR sR cR1 sR1 hst2 z1 z2 hS hba
      go_wp2
      go_region_held3 (fun W => W.cell? ⟨b, o + t, none⟩ = some (.slice ak (L t) ck) ∧ W.cell? ⟨b1, o1 + t, none⟩ = some (.slice ak1 (L t) ck1) ∧ (convert 38 9 (.slice ak (L t) ck)).run Tryd.prog W = .ok (.string ba) W ∧ (convert 38 9 (.slice ak1 (L t) ck1)).run Tryd.prog W = .ok (.string ba) W) (first | go_keep | exact ⟨k1, k2, y1, y2⟩) (fail)
      clear k1 k2 y1 y2
      go_wp2
      have ht := HT.out
      first
        | exact ⟨⟨t + 1, by omega, by go_num, HST.out.trans Stay.drew⟩, by simp [intOf]; omega⟩
        | (go_round
           case rel => exact ⟨t + 1, by omega, by go_num, HST.out.trans Stay.drew⟩
           case measure => simp [intOf]; omega)
    · obtain rfl : t = n := by omega
      have HST := Lib.hid hst
      clear hst
      go_wp2
      go_ret
      exact ⟨rfl, HST.out⟩
end Go.Proofs.YtaldpfamgfchoaaDoor.Rs
