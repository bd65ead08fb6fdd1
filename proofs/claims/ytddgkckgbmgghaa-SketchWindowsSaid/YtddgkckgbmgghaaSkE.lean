/-
  sketch: slices of sketches; the one that is most like one, and the document's.
-/
import Derived.Test.YtddgkckgbmgghaaSkD
import Derived.Test.YtddgkckgbmgghaaLoadAt
namespace Go.Proofs.Ytddgkckgbmgghaa.Sk
open Go.RowKit Hn
set_option maxRecDepth 100000

/-- A slice that reads as n sketches. -/
def SkS (w : World) (x : Value) (n : Nat) (L : Nat → Nat → Nat) : Prop :=
  ∃ a0 c, x = .slice a0 n c ∧ n ≤ c ∧ c ≤ 9223372036854775807 ∧ (0 < n → ∃ g o, a0 = some ⟨g, o, none⟩ ∧ ∀ i, i < n → ∀ j, j < 4 → w.cell? ⟨g, o + i * 4 + j, none⟩ = some (.int .u32 (L i j : Int)))
theorem SkS.stay0 {w w' : World} {x : Value} {n : Nat} {L : Nat → Nat → Nat} (h : SkS w x n L) (hs : Stay (fun _ => False) w w') : SkS w' x n L := by
  obtain ⟨a0, c, e, h1, h2, h3⟩ := h
  refine ⟨a0, c, e, h1, h2, fun h0 => ?_⟩
  obtain ⟨g, o, e, hc⟩ := h3 h0
  exact ⟨g, o, e, fun i hi j hj => hs.cell (hc i hi j hj) (fun x => x)⟩
theorem SkS.nil (w : World) (L : Nat → Nat → Nat) : SkS w (.slice none 0 0) 0 L := ⟨none, 0, rfl, Nat.le_refl _, by decide, fun h => by omega⟩

/-- One of them as a whole. -/
theorem run_load_row {ty : TypeId} (A : IsQ ty) {w : World} {g o : Nat} {f : Nat → Nat} (hc : ∀ j, j < 4 → w.cell? ⟨g, o + j, none⟩ = some (.int .u32 (f j : Int))) : (loadVar ty ⟨g, o, none⟩).run Try.prog w = .ok (skV f) w := by
  obtain ⟨d, hu, hd⟩ := A.under
  exact run_loadVar_at w ⟨g, o, none⟩ ty (qC f) d hu (by cases d <;> first | rfl | cases hd) A.info (fun j v hv => by
    have hj : j < 4 := (List.getElem?_eq_some_iff.1 hv).1
    rw [add_at, hc j hj, ← hv]
    exact (qC_get f hj).symm)

/-- The best of the first k, and how like it is. -/
def bestP (L : Nat → Nat → Nat) (s : Nat → Nat) : Nat → Int × Nat
  | 0 => (-1, 0)
  | k + 1 => if (bestP L s k).2 < likeN (L k) s 4 then ((k : Int), likeN (L k) s 4) else bestP L s k
def bestN (L : Nat → Nat → Nat) (s : Nat → Nat) (n : Nat) : Int := (bestP L s n).1
theorem bestP_spec (L : Nat → Nat → Nat) (s : Nat → Nat) : ∀ k, ((bestP L s k).2 = 0 → (bestP L s k).1 = -1) ∧ (∀ j, j < k → likeN (L j) s 4 ≤ (bestP L s k).2) ∧ (0 < (bestP L s k).2 → ∃ i, i < k ∧ (bestP L s k).1 = (i : Int) ∧ likeN (L i) s 4 = (bestP L s k).2 ∧ ∀ j, j < i → likeN (L j) s 4 < (bestP L s k).2)
  | 0 => ⟨fun _ => rfl, fun j h => by omega, fun h => absurd h (Nat.lt_irrefl 0)⟩
  | k + 1 => by
    obtain ⟨h1, h2, h3⟩ := bestP_spec L s k
    unfold bestP
    by_cases h : (bestP L s k).2 < likeN (L k) s 4
    · rw [if_pos h]
      refine ⟨fun e => by simp at e; omega, fun j hj => ?_, fun _ => ⟨k, by omega, rfl, rfl, fun j hj => ?_⟩⟩
      · by_cases e : j = k
        · subst e; exact Nat.le_refl _
        · have := h2 j (by omega); show _ ≤ likeN (L k) s 4; omega
      · have := h2 j hj; show _ < likeN (L k) s 4; omega
    · rw [if_neg h]
      refine ⟨h1, fun j hj => ?_, fun h0 => ?_⟩
      · by_cases e : j = k
        · subst e; omega
        · exact h2 j (by omega)
      · obtain ⟨i, hi, h4⟩ := h3 h0
        exact ⟨i, by omega, h4⟩
theorem bestN_is (L : Nat → Nat → Nat) (s : Nat → Nat) {n i : Nat} (hi : i < n) (h0 : 0 < likeN (L i) s 4) (hall : ∀ j, j < n → likeN (L j) s 4 ≤ likeN (L i) s 4) (hf : ∀ j, j < i → likeN (L j) s 4 ≠ likeN (L i) s 4) : bestN L s n = (i : Int) := by
  obtain ⟨_, h2, h3⟩ := bestP_spec L s n
  have hm := h2 i hi
  obtain ⟨k, hk, e1, e2, e3⟩ := h3 (by omega)
  have hkm := hall k hk
  have : k = i := by
    rcases Nat.lt_trichotomy k i with h | h | h
    · have := hf k h; omega
    · exact h
    · have := e3 i h; omega
  subst this
  exact e1
theorem bestN_none (L : Nat → Nat → Nat) (s : Nat → Nat) {n : Nat} (hall : ∀ j, j < n → likeN (L j) s 4 ≤ 0) : bestN L s n = -1 := by
  obtain ⟨h1, _, h3⟩ := bestP_spec L s n
  refine h1 ?_
  rcases Nat.eq_zero_or_pos (bestP L s n).2 with h | h
  · exact h
  · obtain ⟨k, hk, _, e2, _⟩ := h3 h
    have := hall k hk
    omega
theorem bestP_le (L : Nat → Nat → Nat) (s : Nat → Nat) : ∀ k, (bestP L s k).2 ≤ 4
  | 0 => Nat.zero_le _
  | k + 1 => by
    unfold bestP
    split
    · exact likeN_le _ _ 4
    · exact bestP_le L s k
theorem bestP_range (L : Nat → Nat → Nat) (s : Nat → Nat) : ∀ k, -1 ≤ (bestP L s k).1 ∧ (bestP L s k).1 < k
  | 0 => ⟨Int.le_refl _, by show (-1 : Int) < 0; decide⟩
  | k + 1 => by
    have := bestP_range L s k
    unfold bestP
    split
    · show -1 ≤ (k : Int) ∧ (k : Int) < ((k + 1 : Nat) : Int); omega
    · omega

set_option maxHeartbeats 1000000 in
theorem best_any (w : World) (x : Value) (n : Nat) (L : Nat → Nat → Nat) (s : Nat → Nat) (hx : SkS w x n L) :
    Calls Try.prog 15 #[x, skV s] w fun e w' => e = .returned (.int .i64 (bestN L s n)) ∧ Stay (fun _ => False) w w' := by
  have h0 := QAt.new w 27 s
  have HS := Lib.hid (Stay.alloc (X := fun _ => False) w (.cells (qC s).toArray 27))
  have HX := Lib.hid hx
  have H0 := Lib.hid h0
  obtain ⟨a0, c, rfl, hnc, hcm, hcell⟩ := hx
  have HC := Lib.hid hcell
  clear h0 hcell
  unfold skV
  go_enter Try.func15, Try.ntmps15
  go_wp2
  go_loopw [5, 6, 12] (fun b m i wr => ∃ k : Nat, k ≤ n ∧ i = .int .i64 (k : Int) ∧ b = .int .i64 (bestP L s k).1 ∧ m = .int .i64 ((bestP L s k).2 : Int) ∧ QAt wr w.heap.size 27 s ∧ Stay (fun _ => False) w wr) (fun _ _ i _ => n - (intOf i).toNat)
  case atStart => exact ⟨0, by omega, rfl, rfl, rfl, H0.out, HS.out⟩
  case round =>
    obtain ⟨k, hk, rfl, rfl, rfl, hs, hst⟩ := hrel
    by_cases hlt : k < n
    · obtain ⟨g, o, rfl, hc⟩ := HC.out (by omega)
      have ks := Lib.hid (run_load_row q_sk (w := wr) (g := g) (o := o + k * 4) (f := L k) (fun j hj => hst.cell (hc k hlt j hj) (fun x => x)))
      have hA := QAt.new wr 27 (fun _ => 0)
      have HA := Lib.hid hA
      have HSS := Lib.hid (hs.stay0 (Stay.alloc wr (.cells (qC (fun _ => 0)).toArray 27)))
      have HST := Lib.hid hst
      have HLT := Lib.hid hs.lt
      clear hA hs hst hc
      go_wp2_with (first
        | (refine wpList_load_run rfl 27 (.tmp 15) rfl ⟨g, o + k * 4, none⟩ rfl _ ks.out ?_)
        | (with_reducible refine q_sk.alloc rfl rfl ?_)
        | (refine q_sk.store rfl (.tmp 8) (.tmp 16) rfl wr.heap.size rfl _ (L k) rfl HA.out ?_; intro w3 h3 s3; have H3 := Lib.hid h3
           have HS3 := Lib.hid (HSS.out.stay s3 (fun e => by have := HLT.out; omega))
           have HT3 := Lib.hid (HST.out.trans (stay_seal (X := fun j => j = wr.heap.size) ((Stay.alloc _ _).trans s3) (fun j e => Nat.le_of_eq e.symm)))
           clear h3 s3)
        | (refine q_sk.load rfl (.tmp 8) rfl wr.heap.size rfl _ H3.out ?_)
        | (refine q_sk.load rfl (.tmp 3) rfl w.heap.size rfl _ HS3.out ?_))
      refine (like_any w3 (L k) s).mono ?_
      rintro e w4 ⟨rfl, s4⟩
      have HS4 := Lib.hid (HS3.out.stay0 s4)
      have HT4 := Lib.hid (HT3.out.trans s4)
      clear s4
      have hle := likeN_le (L k) s 4
      have hb := bestP_le L s k
      by_cases hlk : (bestP L s k).2 < likeN (L k) s 4
      · have HN := Lib.hid (show bestP L s (k + 1) = ((k : Int), likeN (L k) s 4) by rw [bestP, if_pos hlk])
        generalize likeN (L k) s 4 = m at *
        generalize (bestP L s k).2 = m0 at *
        generalize (bestP L s k).1 = b0 at *
        go_wp2
        refine ⟨⟨k + 1, by omega, by go_num, by rw [HN.out], by rw [HN.out], HS4.out, HT4.out⟩, by simp [intOf]; omega⟩
      · have HN := Lib.hid (show bestP L s (k + 1) = bestP L s k by rw [bestP, if_neg hlk])
        have HN1 := Lib.hid (show (bestP L s (k + 1)).1 = (bestP L s k).1 by rw [HN.out])
        have HN2 := Lib.hid (show (bestP L s (k + 1)).2 = (bestP L s k).2 by rw [HN.out])
        clear HN
        generalize likeN (L k) s 4 = m at *
        generalize (bestP L s k).2 = m0 at *
        generalize (bestP L s k).1 = b0 at *
        go_wp2
        refine ⟨⟨k + 1, by omega, by go_num, by rw [HN1.out], by rw [HN2.out], HS4.out, HT4.out⟩, by simp [intOf]; omega⟩
    · obtain rfl : k = n := by omega
      go_wp2
      go_ret
      exact ⟨rfl, hst⟩

/-- Behind all with more than m alike, and i places with other than m. -/
def Past (L : Nat → Nat → Nat) (s : Nat → Nat) (n m i : Nat) : Prop := (∀ j, j < n → likeN (L j) s 4 ≤ m) ∧ ∀ j, j < i → likeN (L j) s 4 ≠ m
theorem Past.next {L : Nat → Nat → Nat} {s : Nat → Nat} {n m i : Nat} (h : Past L s n m i) (e : likeN (L i) s 4 ≠ m) : Past L s n m (i + 1) := ⟨h.1, fun j hj => by
  by_cases h1 : j = i
  · subst h1; exact e
  · exact h.2 j (by omega)⟩
theorem Past.less {L : Nat → Nat → Nat} {s : Nat → Nat} {n m : Nat} (h : Past L s n (m + 1) n) : Past L s n m 0 := ⟨fun j hj => by have := h.1 j hj; have := h.2 j hj; omega, fun j hj => by omega⟩
theorem Past.start (L : Nat → Nat → Nat) (s : Nat → Nat) (n : Nat) : Past L s n 4 0 := ⟨fun j _ => likeN_le _ _ 4, fun j hj => by omega⟩

set_option maxHeartbeats 1000000 in
theorem rbest_any (w : World) (x : Value) (n : Nat) (L : Nat → Nat → Nat) (s : Nat → Nat) (hx : SkS w x n L) :
    Calls Try.prog 16 #[x, skV s] w fun e w' => e = .returned (.int .i64 (bestN L s n)) ∧ Stay (fun _ => False) w w' := by
  have h0 := QAt.new w 25 s
  have HS := Lib.hid (Stay.alloc (X := fun _ => False) w (.cells (qC s).toArray 25))
  have H0 := Lib.hid h0
  obtain ⟨a0, c, rfl, hnc, hcm, hcell⟩ := hx
  have HC := Lib.hid hcell
  clear h0 hcell
  unfold skV
  go_enter Try.func16, Try.ntmps16
  go_wp2
  go_loopw [5] (fun v wr => ∃ m : Nat, m ≤ 4 ∧ v = .int .i64 (m : Int) ∧ Hid (Past L s n m 0) ∧ QAt wr w.heap.size 25 s ∧ Stay (fun _ => False) w wr) (fun v _ => (intOf v).toNat)
  case atStart => exact ⟨4, by omega, rfl, Lib.hid (Past.start L s n), H0.out, HS.out⟩
  case round =>
    obtain ⟨m, hm, rfl, hp, hs, hst⟩ := hrel
    obtain ⟨wo, rfl⟩ : ∃ wo, wo = wr := ⟨_, rfl⟩
    have HO := Lib.hid hs
    have HTO := Lib.hid hst
    clear hs hst
    by_cases h0 : 0 < m
    · go_wp2
      go_loopw [6] (fun i wr => ∃ k : Nat, k ≤ n ∧ i = .int .i64 (k : Int) ∧ Hid (Past L s n m k) ∧ Stay (fun _ => False) wo wr) (fun i _ => n - (intOf i).toNat)
      case atStart => exact ⟨0, by omega, rfl, hp, Stay.refl _ _⟩
      case round =>
        obtain ⟨k, hk, rfl, hq, hst⟩ := hrel
        by_cases hlt : k < n
        · obtain ⟨g, o, rfl, hc⟩ := HC.out (by omega)
          have HT := Lib.hid (HTO.out.trans hst)
          have HI := Lib.hid hst
          clear hst
          have hle := likeN_le (L k) s 4
          obtain ⟨D, hDd⟩ : ∃ D : World → Prop, D = Stay (fun _ => False) wr := ⟨_, rfl⟩
          have HD := Lib.hid (show ∀ W, D W → Stay (fun _ => False) wr W by intro W h; rw [hDd] at h; exact h)
          have HDm := Lib.hid (show ∀ W, Stay (fun _ => False) wr W → D W by intro W h; rw [hDd]; exact h)
          clear hDd
          have HN0 := Lib.hid (HDm.out wr.drew Stay.drew)
          have k1 := Lib.hid (fun i : InC D => run_load_row q_arr (w := i.w) (g := g) (o := o + k * 4) (f := L k) (fun j hj => ((HT.out.trans (HD.out _ i.h))).cell (hc k hlt j hj) (fun x => x)))
          have k2 := Lib.hid (fun i : InC D => q_arr.run_load ((HO.out.stay0 HI.out).stay0 (HD.out _ i.h)))
          have H9 := Lib.hid (show ∀ W, D W → Calls Try.prog 11 #[skV (L k), skV s] W fun e w' => e = .returned (.int .i64 (likeN (L k) s 4 : Int)) ∧ D w' from fun W hW => (rlike_any W (L k) s).mono fun e w' ⟨h1, h2⟩ => ⟨h1, HDm.out _ ((HD.out W hW).trans h2)⟩)
          clear hc
          haveI : Nonempty (InC D) := ⟨⟨_, HN0.out⟩⟩
          by_cases he : likeN (L k) s 4 = m
          · have HE := Lib.hid (show bestN L s n = (k : Int) from bestN_is L s hlt (by omega) (by rw [he]; exact hq.out.1) (by rw [he]; exact hq.out.2))
            rw [he] at H9
            clear he hle
            go_wp2_with (first
              | (refine wp_region_class D HN0.out (by kernel_rfl) (by kernel_rfl) ?_
                 try go_frame
                 repeat (first
                   | (refine quiet_loadG (by rfl) 25 (.tmp 19) rfl ⟨g, o + k * 4, none⟩ rfl (skV (L k)) k1.out ?_; go_frame)
                   | (refine quiet_loadG (by rfl) 25 (.tmp 3) rfl ⟨w.heap.size, 0, none⟩ rfl (skV s) k2.out ?_; go_frame)
                   | (go_big_quiet_step (with_reducible exact calls_class H9.out)))
                 refine wpQuiet_nil ?_
                 rintro W ⟨i, rfl⟩
                 have hs := HD.out _ i.h
                 generalize i.w = w9 at *))
            go_ret
            exact ⟨by rw [HE.out]; rfl, HT.out.trans hs⟩
          · have HE := Lib.hid (hq.out.next he)
            have hb : ((likeN (L k) s 4 : Int) == (m : Int)) = false := beq_eq_false_iff_ne.2 (fun h => he (by omega))
            clear he
            generalize likeN (L k) s 4 = m1 at *
            go_wp2_with (first
              | (refine wp_region_class D HN0.out (by kernel_rfl) (by kernel_rfl) ?_
                 try go_frame
                 repeat (first
                   | (refine quiet_loadG (by rfl) 25 (.tmp 19) rfl ⟨g, o + k * 4, none⟩ rfl (skV (L k)) k1.out ?_; go_frame)
                   | (refine quiet_loadG (by rfl) 25 (.tmp 3) rfl ⟨w.heap.size, 0, none⟩ rfl (skV s) k2.out ?_; go_frame)
                   | (go_big_quiet_step (with_reducible exact calls_class H9.out)))
                 refine wpQuiet_nil ?_
                 rintro W ⟨i, rfl⟩
                 have hs := HD.out _ i.h
                 generalize i.w = w9 at *))
            refine ⟨⟨k + 1, by omega, by go_num, Lib.hid HE.out, HI.out.trans hs⟩, by simp [intOf]; omega⟩
        · obtain rfl : k = n := by omega
          have HP := Lib.hid (Past.less (L := L) (s := s) (n := k) (m := m - 1) (by rw [show m - 1 + 1 = m by omega]; exact hq.out))
          have HO2 := Lib.hid (HO.out.stay0 hst)
          have HT2 := Lib.hid (HTO.out.trans hst)
          have e1 : ((m : Int) - 1) = ((m - 1 : Nat) : Int) := by omega
          clear hst
          go_wp2
          refine ⟨⟨m - 1, by omega, by go_num, Lib.hid HP.out, HO2.out, HT2.out⟩, by simp [intOf]; omega⟩
    · obtain rfl : m = 0 := by omega
      have HE := Lib.hid (show bestN L s n = -1 from bestN_none L s hp.out.1)
      go_wp2
      go_ret
      exact ⟨by rw [HE.out]; rfl, HTO.out⟩
end Go.Proofs.Ytddgkckgbmgghaa.Sk
