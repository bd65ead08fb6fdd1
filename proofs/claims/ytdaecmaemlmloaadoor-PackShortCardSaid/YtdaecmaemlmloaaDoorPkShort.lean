/-
  PackShort's walk.
-/
import Derived.Test.YtdaecmaemlmloaaDoorPkF
import Derived.Test.YtdaecmaemlmloaaDoorErrPk
import Derived.Deep.RegionLaw
namespace Go.Proofs.YtdaecmaemlmloaaDoor.Pk
open Go.RowKit
set_option maxRecDepth 100000

theorem short_ends (most n : Nat) (hn : n < 2 ^ 64) : numB most ((spellB n).take (kOf n)) = .error 12 := by
  have hl := length_lowB n (kOf n)
  obtain ⟨h1, h2⟩ := first_byte hn
  unfold spellB
  cases hk : kOf n with
  | zero => rfl
  | succ k =>
    rw [hk] at h1 h2 hl
    rw [List.take_succ_cons]
    unfold numB
    simp only [toNat_ofNat h1, h2]
    rw [if_pos (by rw [List.length_take, hl]; omega)]

theorem ones_lead : ∀ k, k ≤ 7 → leadN (onesN k) = k ∧ onesN k < 256
  | 0, _ => by decide
  | 1, _ => by decide
  | 2, _ => by decide
  | 3, _ => by decide
  | 4, _ => by decide
  | 5, _ => by decide
  | 6, _ => by decide
  | 7, _ => by decide

theorem short_long (most n : Nat) (hk : kOf n ≤ 6) : numB most (UInt8.ofNat (onesN (kOf n + 1)) :: UInt8.ofNat (n / 256 ^ kOf n) :: lowB n (kOf n)) = .error 3 := by
  have hl := length_lowB n (kOf n)
  obtain ⟨h1, h2⟩ := ones_lead (kOf n + 1) (by omega)
  have hlt := kOf_ge (n := n) (by omega)
  have hq : n / 256 ^ kOf n < 256 := by
    rw [Nat.div_lt_iff_lt_mul (Nat.pow_pos (by decide))]
    refine Nat.lt_of_lt_of_le hlt ?_
    rw [show (256 : Nat) * 256 ^ kOf n = 2 ^ (8 * kOf n + 8) by rw [Nat.mul_comm, ← Nat.pow_succ, show (256 : Nat) = 2 ^ 8 from rfl, ← Nat.pow_mul]; congr 1]
    exact Nat.pow_le_pow_right (by decide) (by omega)
  have hf : foldB 0 (UInt8.ofNat (n / 256 ^ kOf n) :: lowB n (kOf n)) = n := by
    rw [foldB_cons, foldB_lowB, toNat_ofNat hq, Nat.zero_mul, Nat.zero_add, Nat.mul_comm]
    exact Nat.div_add_mod n _
  unfold numB
  simp only [toNat_ofNat h2, h1]
  have ht : (UInt8.ofNat (n / 256 ^ kOf n) :: lowB n (kOf n)).take (kOf n + 1) = UInt8.ofNat (n / 256 ^ kOf n) :: lowB n (kOf n) := List.take_of_length_le (by rw [List.length_cons, hl]; omega)
  rw [if_neg (by rw [List.length_cons, hl]; omega), Nat.sub_self, ht, hf, if_pos ⟨by omega, by rw [show 7 * (kOf n + 1) = 7 * kOf n + 7 by omega]; exact hlt⟩]

def M64 : Nat := 18446744073709551615

theorem Slc.first {w : World} {a0 : Option Addr} {b : List UInt8} {c k : Nat} (h : Slc w (.slice a0 b.length c) b) (hk : k ≤ b.length) : Slc w (.slice a0 k c) (b.take k) := by
  obtain ⟨a1, c1, e, hr, hn, hc, hm⟩ := h
  cases e
  have hl : (b.take k).length = k := by rw [List.length_take]; omega
  refine ⟨a0, c, by rw [hl], fun h0 => ?_, hn, by omega, hm⟩
  obtain ⟨ad, e, hcell⟩ := hr (by omega)
  refine ⟨ad, e, fun j v hv => hcell j v ?_⟩
  simp only [cellsB, List.map_take, List.getElem?_take] at hv
  split at hv
  · exact hv
  · cases hv

theorem ruint_at (X : Nat → Prop) (w : World) (p : Nat) (s : RS) (most : Nat) (m : Int) (hm : m = (most : Int)) (h : RdAt X w p s) : Calls Tryd.prog 8 #[.pointer (some ⟨p, 0, none⟩), .int .u64 m] w fun e w' => e = .returned (u64V (takeB (numB most) 0 s).1) ∧ RdAt X w' p (takeB (numB most) 0 s).2 ∧ Stay (fun k => k = p) w w' := by
  subst hm
  exact ruint_any X w p s most h

/-- A reader behind base: what it turns lies behind base. -/
theorem rstay {w0 w w' : World} {X : Nat → Prop} {p : Nat} {s : RS} (h0 : Stay (fun _ => False) w0 w) (h : RdAt X w p s) (hX : ∀ k, X k → w0.heap.size ≤ k) (hs : Stay (fun k => k = p) w w') : Stay (fun _ => False) w0 w' :=
  stay_seal (X := fun k => k = p) ((h0.mono (fun _ x => x.elim)).trans hs) (fun k hk => by
    have hk' : k = p := hk
    subst hk'
    exact hX _ h.own)

theorem bits_at : ∀ j, j < 8 → (#[Value.int .i64 128, .int .i64 64, .int .i64 32, .int .i64 16, .int .i64 8, .int .i64 4, .int .i64 2, .int .i64 1] : Array Value)[j]? = some (.int .i64 ((2 ^ (7 - j) : Nat) : Int))
  | 0, _ => rfl
  | 1, _ => rfl
  | 2, _ => rfl
  | 3, _ => rfl
  | 4, _ => rfl
  | 5, _ => rfl
  | 6, _ => rfl
  | 7, _ => rfl
theorem ones_next : ∀ j, j < 8 → onesN (j + 1) = onesN j + 2 ^ (7 - j)
  | 0, _ => rfl
  | 1, _ => rfl
  | 2, _ => rfl
  | 3, _ => rfl
  | 4, _ => rfl
  | 5, _ => rfl
  | 6, _ => rfl
  | 7, _ => rfl

theorem Owns.at {base : Nat} {w : World} {v : Value} {l : List UInt8} (h : Owns base w v l) (h0 : 0 < l.length) : ∃ g cap, v = .slice (some ⟨g, 0, none⟩) l.length cap ∧ l.length ≤ cap ∧ cap ≤ 9223372036854775807 := by
  rcases h.2 with ⟨_, hn⟩ | ⟨g, cap, cur, e, _, _, h1, h2, _⟩
  · omega
  · exact ⟨g, cap, e, h1, by unfold maxLen at h2; omega⟩

theorem slc_two (w : World) (c1 c2 : UInt8) : Slc (w.alloc (.cells #[.int .u8 (c1.toNat : Int), .int .u8 (c2.toNat : Int)] 5)) (.slice (some ⟨w.heap.size, 0, none⟩) 2 2) [c1, c2] := by
  have h : Owns w.heap.size (w.alloc (.cells #[byteV c1, byteV c2] 5)) (.slice (some ⟨w.heap.size, 0, none⟩) 2 2) [c1, c2] := World.ownsRow_lit w #[byteV c1, byteV c2] 2 (Nat.le_refl _) (by decide) rfl
  exact h.slc
theorem short_head {n : Nat} (hk : kOf n ≤ 6) : IntKind.u8.wrap ((onesN (kOf n + 1) : Nat) : Int) = ((UInt8.ofNat (onesN (kOf n + 1))).toNat : Int) := by
  have := (ones_lead (kOf n + 1) (by omega)).2
  rw [toNat_ofNat this, IntWalk.u8_in _ (by omega)]
theorem short_first {n : Nat} (hn : n < 2 ^ 64) : IntKind.u8.wrap (((firstN n : Nat) : Int) - ((onesN (kOf n) : Nat) : Int)) = ((UInt8.ofNat (n / 256 ^ kOf n)).toNat : Int) := by
  have := (first_byte hn).1
  rw [toNat_ofNat (by omega)]
  unfold firstN
  generalize n / 256 ^ kOf n = q at *
  rw [IntWalk.u8_in _ (by omega)]
  omega
theorem ones_small : ∀ k, k ≤ 8 → onesN k ≤ 255
  | 0, _ => by decide
  | 1, _ => by decide
  | 2, _ => by decide
  | 3, _ => by decide
  | 4, _ => by decide
  | 5, _ => by decide
  | 6, _ => by decide
  | 7, _ => by decide
  | 8, _ => by decide

set_option maxHeartbeats 2000000 in
theorem short_walk (n : Nat) (w : World) (hg : ErrCell w) (hn : (n : Int) ≤ 18446744073709551615) :
    Calls Tryd.prog 5 #[.int .u64 n] w fun e w' => e = .returned (.bool true) ∧ Stay (fun _ => False) w w' := by
  have h8 := kOf_le n
  have HG := Lib.hid hg
  have HE := Lib.hid (short_ends M64 n (by omega))
  have HFL := Lib.hid (first_byte (n := n) (by omega)).1
  clear hg
  go_enter Tryd.func5, Tryd.ntmps5
  go_wp2_with fail
  refine (new_any w).mono ?_
  rintro e w1 ⟨rfl, rfl⟩
  go_wp2_with fail
  refine (fresh_uint n _ w rfl hn).mono ?_
  rintro e w2 ⟨rfl, hw2, hs2⟩
  go_wp2_with fail
  refine (done_any _ _ _ _ hw2 (by rw [length_spellB]; omega)).mono ?_
  rintro e w3 ⟨v, rfl, how, hs3⟩
  have hT := hs2.trans hs3
  obtain ⟨g, cap, rfl, hcap, hcm⟩ := how.at (by rw [length_spellB]; omega)
  rw [length_spellB] at hcap
  have HO := Lib.hid how
  have hcap0 : ¬ cap = 0 := by omega
  rw [length_spellB]
  clear how hw2 hs2 hs3
  go_wp2_with fail
  have hx1 : Slc w3 (.slice (some ⟨g, 0, none⟩) (kOf n) cap) ((spellB n).take (kOf n)) := Slc.first HO.out.slc (by rw [length_spellB]; omega)
  refine (read_any w3 _ _ hx1 (by rw [List.length_take, length_spellB]; omega)).mono ?_
  rintro e w4 ⟨p, rfl, hr4, hs4⟩
  clear hx1
  go_wp2_with fail
  refine (ruint_at _ w4 p _ M64 _ rfl hr4).mono ?_
  rintro e w5 ⟨rfl, hr5, hs5⟩
  rw [takeB_error rfl HE.out] at hr5
  rw [takeB_error rfl HE.out]
  have hT5 : Stay (fun _ => False) w w5 := hT.trans (rstay hs4 hr4 (fun _ h => h) hs5)
  have HO5 := Lib.hid (Owns.stay0 HO.out (rstay hs4 hr4 (fun _ h => h) hs5))
  clear hr4 hs4 hs5 hT
  go_wp2_with fail
  refine (rdone_any _ w5 p _ hr5).mono ?_
  rintro e w6 ⟨rfl, rfl⟩
  go_wp2_with fail
  refine (num_any 12 _ (ErrCell.stay0 HG.out hT5) _ rfl).mono ?_
  rintro e w6 ⟨rfl, hs6⟩
  have hT6 := hT5.trans hs6
  have HO6 := Lib.hid (Owns.stay0 HO5.out hs6)
  clear hr5 hs6
  by_cases h7 : 7 < kOf n + 1
  · go_wp2_with fail
    refine (sure_any _).mono ?_
    rintro e w7 ⟨rfl, hs7⟩
    go_wp2
    go_ret
    exact ⟨rfl, hT6.trans hs7⟩
  · have hc0 : w6.cell? ⟨g, 0, none⟩ = some (.int .u8 ((firstN n : Nat) : Int)) := by
      have h := World.ownsRow.cells (g := g) HO6.out rfl 0 (byteV (UInt8.ofNat (onesN (kOf n) + n / 256 ^ kOf n))) rfl
      rw [add_at] at h
      unfold byteV at h
      rw [toNat_ofNat HFL.out] at h
      exact h
    have hfn : firstN n < 256 := HFL.out
    have hglt : g < w6.heap.size := (HO6.out.lt g rfl).2
    go_wp2_with fail
    go_loop [7, 8, 9] (fun fi he i => ∃ j : Nat, j ≤ kOf n + 1 ∧ i = .int .i64 j ∧ he = .int .i64 (onesN j : Nat) ∧ fi = .int .i64 ((firstN n : Nat) - (onesN (min j (kOf n)) : Nat))) (fun _ _ i => kOf n + 1 - (intOf i).toNat)
    case atStart => exact ⟨0, Nat.zero_le _, rfl, rfl, by rw [Nat.zero_min]; simp [onesN]⟩
    case round =>
      obtain ⟨j, hj, rfl, rfl, rfl⟩ := hrel
      by_cases hlt : j < kOf n + 1
      · have hbit : (w6.alloc (.cells #[.int .i64 128, .int .i64 64, .int .i64 32, .int .i64 16, .int .i64 8, .int .i64 4, .int .i64 2, .int .i64 1] 3)).cell? ⟨w6.heap.size, j, none⟩ = some (.int .i64 ((2 ^ (7 - j) : Nat) : Int)) := by
          rw [World.cell?_alloc_at _ _ _ _ rfl]
          exact bits_at j (by omega)
        have hnx := ones_next j (by omega)
        have ho1 := ones_small j (by omega)
        have ho2 := ones_small (j + 1) (by omega)
        have ho3 := ones_small (min j (kOf n)) (by omega)
        generalize 2 ^ (7 - j) = q at *
        have hq : q ≤ 255 := by omega
        have HNX := Lib.hid hnx
        clear hnx ho2
        by_cases hk : j < kOf n
        · go_wp2
          go_round
          case rel => exact ⟨j + 1, by omega, by go_num, by rw [HNX.out]; go_num, by rw [show min (j + 1) (kOf n) = j + 1 by omega, HNX.out]; congr 1; omega⟩
          case measure => simp [intOf]; omega
        · go_wp2
          go_round
          case rel => exact ⟨j + 1, by omega, by go_num, by rw [HNX.out]; go_num, by rw [show min (j + 1) (kOf n) = min j (kOf n) by omega]⟩
          case measure => simp [intOf]; omega
      · obtain rfl : j = kOf n + 1 := by omega
        obtain ⟨i0, hi, hz0, hz1, hz2⟩ := info_parts info5
        obtain ⟨c1, hc1⟩ : ∃ c1, c1 = UInt8.ofNat (onesN (kOf n + 1)) := ⟨_, rfl⟩
        obtain ⟨c2, hc2⟩ : ∃ c2, c2 = UInt8.ofNat (n / 256 ^ kOf n) := ⟨_, rfl⟩
        have e1 := short_head (n := n) (by omega)
        have e2 := short_first (n := n) (by omega)
        rw [← hc1] at e1
        rw [← hc2] at e2
        have HC1 := Lib.hid hc1
        have HC2 := Lib.hid hc2
        have HI := Lib.hid hi
        have HZ0 := Lib.hid hz0
        have HZ1 := Lib.hid hz1
        have HZ2 := Lib.hid hz2
        have hcut := (HO6.out.slc.cut (k := 1) (by rw [length_spellB]; omega)).1
        have hlow : (spellB n).drop 1 = lowB n (kOf n) := rfl
        rw [hlow, length_spellB, Nat.add_sub_cancel] at hcut
        have hbl := length_lowB n (kOf n)
        have HBL := Lib.hid hbl
        have hcases : cap = 1 ∨ ¬ cap = 1 := by omega
        have HLong := Lib.hid (short_long M64 n (by omega))
        clear hc1 hc2 hi hz0 hz1 hz2 hlow hbl hcap hcm hlt
        have hsb := Stay.alloc (X := fun _ => False) w6 (.cells #[.int .i64 128, .int .i64 64, .int .i64 32, .int .i64 16, .int .i64 8, .int .i64 4, .int .i64 2, .int .i64 1] 3)
        go_wp2_with fail
        generalize w6.alloc (.cells #[.int .i64 128, .int .i64 64, .int .i64 32, .int .i64 16, .int .i64 8, .int .i64 4, .int .i64 2, .int .i64 1] 3) = wb at hsb ⊢
        rcases hcases with hcap1 | hcap1
        subst hcap1
        all_goals
          first
            | rw [if_pos rfl] at hcut
            | (rw [if_neg hcap1] at hcut; simp only [Option.map_some, add_at] at hcut)
          have HCUT := Lib.hid hcut
          clear hcut
          go_region_law (first
            | (refine step_append_slc rfl (.tmp 68) (.tmp 73) 22 rfl 0 i0 Tryd.underlying22 HI.out HZ0.out HZ1.out HZ2.out (.slice none 0 0) (.slice (some ⟨wb.heap.size, 0, none⟩) 2 2) [] [c1, c2] rfl rfl (Owns.nil _ _) ((slc_two wb c1 c2).stay0 Stay.drew) (by simp) (Nat.zero_le _) ?_; intro v1 w7 hown1 hgr1 hnn1; have hst1 := ((Stay.alloc (X := fun _ => False) wb (.cells #[.int .u8 (c1.toNat : Int), .int .u8 (c2.toNat : Int)] 5)).trans Stay.drew).trans (Stay.grown (X := fun _ => False) hgr1 (fun k e => by cases e)))
            | (refine step_append_slc rfl (.tmp 74) (.tmp 76) 22 rfl 0 i0 Tryd.underlying22 HI.out HZ0.out HZ1.out HZ2.out v1 _ [c1, c2] (lowB n (kOf n)) rfl (by rfl) hown1 (by exact HCUT.out.stay0 (hsb.trans hst1)) (by rw [HBL.out]; simp; omega) (Nat.zero_le _) ?_; intro v2 w8 hown2 hgr2 hnn2))
          have hst2 : Stay (fun _ => False) wb w8 := stay_seal (X := fun k => wb.heap.size ≤ k) ((hst1.mono (fun _ x => x.elim)).trans (Stay.grown (X := fun k => wb.heap.size ≤ k) hgr2 (fun k e => by
            rcases hnn1 with h | h
            · rw [e] at h
              cases h
            · rw [e] at h
              cases h
              simp))) (fun k hk => hk)
          have hT8 : Stay (fun _ => False) w w8 := hT6.trans (hsb.trans hst2)
          have HO2 := Lib.hid hown2
          obtain ⟨a2, cc2, hv2⟩ := hown2.form
          have hll : ([c1, c2] ++ lowB n (kOf n)).length = kOf n + 2 := by rw [List.length_append, HBL.out]; simp; omega
          have HLL := Lib.hid hll
          rw [hll] at hv2
          clear hst1 hst2 hgr1 hgr2 hnn1 hnn2 hown1 hown2 hll
          subst hv2
          go_wp2_with fail
          refine (read_any w8 _ _ HO2.out.slc (by rw [HLL.out]; omega)).mono ?_
          rintro e w9 ⟨p2, rfl, hr9, hs9⟩
          go_wp2_with fail
          refine (ruint_at _ w9 p2 _ M64 _ rfl hr9).mono ?_
          rintro e w10 ⟨rfl, hr10, hs10⟩
          have hlong : numB M64 ([c1, c2] ++ lowB n (kOf n)) = .error 3 := by rw [HC1.out, HC2.out]; exact HLong.out
          rw [takeB_error rfl hlong] at hr10
          rw [takeB_error rfl hlong]
          have hT10 : Stay (fun _ => False) w w10 := hT8.trans (rstay hs9 hr9 (fun _ h => h) hs10)
          clear hr9 hs9 hs10 hlong
          go_wp2_with fail
          refine (err_any _ w10 p2 _ hr10).mono ?_
          rintro e w11 ⟨rfl, rfl⟩
          go_wp2_with fail
          refine (num_any 3 _ (ErrCell.stay0 HG.out hT10) _ rfl).mono ?_
          rintro e w11 ⟨rfl, hs11⟩
          have hr11 := hr10.stay0 hs11
          have hT11 := hT10.trans hs11
          clear hr10 hs11
          go_wp2_with fail
          refine (left_any _ w11 p2 _ hr11).mono ?_
          rintro e w12 ⟨rfl, rfl⟩
          rw [HLL.out]
          go_wp2_with fail
          refine (sure_any _).mono ?_
          rintro e w13 ⟨rfl, hs13⟩
          go_wp2
          go_ret
          exact ⟨rfl, hT11.trans hs13⟩

end Go.Proofs.YtdaecmaemlmloaaDoor.Pk
