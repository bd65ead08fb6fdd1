/-
  bloom: how many bits are set; the filter of bytes.
-/
import Derived.Test.YtgchdgdhjafdbaaDoorBoE
import Derived.Test.YtgchdgdhjafdbaaDoorBoQ
namespace Go.Proofs.YtgchdgdhjafdbaaDoor.Bo
open Go.RowKit Pk
set_option maxRecDepth 100000

theorem full_nil (w : World) : Calls Tryd.prog 15 #[.pointer none] w fun e w' => e = .returned (.int .i64 0) ∧ w = w' := by
  go_enter Tryd.func15, Tryd.ntmps15
  go_wp2
  go_ret
  exact ⟨rfl, rfl⟩

set_option maxHeartbeats 4000000 in
theorem full_any (w : World) (p g q : Nat) (B : List Bool) (h : FAt w p g q B) :
    Calls Tryd.prog 15 #[.pointer (some ⟨p, 0, none⟩)] w fun e w' => e = .returned (.int .i64 (fullB B : Nat)) ∧ w = w' := by
  obtain ⟨lo, hi, qlo, qhi, ne, n, c, hn, hp, ho⟩ := h
  obtain ⟨L, hL⟩ : ∃ L, L = packB B := ⟨_, rfl⟩
  have hLn : L.length = n := by rw [hL, len_pack]; exact hn.symm
  have hnb : n ≤ 131072 := by rw [hn]; unfold need; omega
  have HF := Lib.hid (show cnt (bt L) (8 * n) = fullB B by rw [hL, hn, ← len_pack]; exact (packB_is B).full)
  obtain ⟨F, hF⟩ : ∃ F, F = fullB B := ⟨_, rfl⟩
  rw [← hF] at HF ⊢
  rw [← hL] at ho
  have cp2 : w.cell? ⟨p, 2, none⟩ = some (.slice (some ⟨g, 0, none⟩) n c) := by rw [cell_of_row w p 2 _ _ _ hp]; rfl
  have HO := Lib.hid ho
  have HL := Lib.hid hLn
  have HCNT := Lib.hid (show ∀ k, cnt (bt L) k ≤ k from cnt_le _)
  clear hp ho hn hL hF hLn
  go_enter Tryd.func15, Tryd.ntmps15
  go_wp2
  go_loop [3, 13] (fun s i => ∃ j t : Nat, j ≤ n ∧ i = .int .i64 (j : Int) ∧ s = .int .i64 (t : Int) ∧ Hid (t = cnt (bt L) (8 * j))) (fun _ i => n - (intOf i).toNat)
  case atStart => exact ⟨0, 0, Nat.zero_le _, rfl, rfl, Lib.hid rfl⟩
  case round =>
    obtain ⟨j, t, hj, rfl, rfl, ht⟩ := hrel
    have htb : t ≤ 1048576 := by have h1 := ht.out; have h2 := HCNT.out (8 * j); omega
    by_cases hlt : j < n
    · obtain ⟨c0, hc0⟩ : ∃ c0, L[j]? = some c0 := ⟨_, List.getElem?_eq_getElem (by rw [HL.out]; exact hlt)⟩
      have cg := owns_cell' HL.out.symm HO.out hc0
      have HG := Lib.hid (show cnt (bt L) (8 * (j + 1)) = t + popN c0.toNat by rw [cnt_byte, ht.out, List.getD_eq_getElem?_getD, hc0]; rfl)
      have hpop : popN c0.toNat ≤ 8 := cnt_le _ _
      unfold byteV at cg
      clear hc0
      go_wp2_with fail
      refine (ones8_any c0 w).mono ?_
      rintro e w' ⟨rfl, rfl⟩
      obtain ⟨u, hu⟩ : ∃ u, u = popN c0.toNat := ⟨_, rfl⟩
      rw [← hu] at HG hpop ⊢
      clear hu
      go_wp2
      exact ⟨⟨j + 1, t + u, hlt, by go_num, by go_num, Lib.hid HG.out.symm⟩, by simp [intOf]; omega⟩
    · obtain rfl : j = n := by omega
      go_wp2
      go_ret
      exact ⟨by rw [ht.out, HF.out]; rfl, rfl⟩

theorem cast_gt (a k : Nat) : decide ((0 : Int) < (a : Int) / (2 : Int) ^ k) = decide (0 < a / 2 ^ k) := by
  have e : (a : Int) / (2 : Int) ^ k = ((a / 2 ^ k : Nat) : Int) := by simp
  rw [e]
  by_cases h : 0 < a / 2 ^ k
  · rw [decide_eq_true h, decide_eq_true (by omega)]
  · rw [decide_eq_false h, decide_eq_false (by omega)]
set_option maxHeartbeats 1000000 in
theorem odd_any (w : World) (v : Value) (x : List UInt8) (s : Nat) (hv : Slc w v x) (hx : 0 < x.length) (hs : s ≤ 1048576) :
    Calls Tryd.prog 28 #[v, .int .i64 (s : Int)] w fun e w' => e = .returned (.bool (oddB x s)) ∧ w = w' := by
  obtain ⟨O, hO⟩ : ∃ O, O = oddB x s := ⟨_, rfl⟩
  rw [← hO]
  unfold oddB at hO
  have HO := Lib.hid hO
  clear hO
  obtain ⟨a0, c, rfl, hr, _, hc1, hc2⟩ := hv
  obtain ⟨ad, rfl, hcell⟩ := hr hx
  obtain ⟨c0, hc0⟩ : ∃ c0, x[x.length - 1]? = some c0 := ⟨_, List.getElem?_eq_getElem (by omega)⟩
  have cg := hcell (x.length - 1) (byteV c0) (by simp [cellsB, hc0])
  have HC := Lib.hid (show x.getD (x.length - 1) 0 = c0 by rw [List.getD_eq_getElem?_getD, hc0]; rfl)
  unfold byteV at cg
  have hlen : (x.length : Int) ≤ 9223372036854775807 := by omega
  clear hcell hc0 hr
  by_cases h0 : 0 < s % 8
  · go_enter Tryd.func28, Tryd.ntmps28
    go_wp2
    go_ret
    refine ⟨?_, rfl⟩
    rw [HO.out, HC.out, decide_eq_true h0, Bool.true_and, ← cast_gt]
    rfl
  · go_enter Tryd.func28, Tryd.ntmps28
    go_wp2
    go_ret
    refine ⟨?_, rfl⟩
    rw [HO.out, decide_eq_false h0, Bool.false_and]
    rfl

/-- Decode of bytes that are no filter's. -/
def DecRet (w w' : World) (b : List UInt8) (e : Ending) : Prop :=
  if goodB b = true then ∃ p g, e = .returned (.tuple #[.pointer (some ⟨p, 0, none⟩), .nilIface]) ∧ w.heap.size ≤ p ∧ w.heap.size ≤ g ∧ FAt w' p g (decK b).1 (decBits b) else e = .returned (.tuple #[.pointer none, Hn.errI 3])
set_option maxHeartbeats 4000000 in
theorem decode_any (w : World) (v : Value) (b : List UInt8) (hv : Slc w v b) (hlen : b.length ≤ 140737488355328) :
    Calls Tryd.prog 8 #[v] w fun e w' => DecRet w w' b e ∧ Stay (fun _ => False) w w' := by
  obtain ⟨R, hR⟩ : ∃ R : World → Ending → Prop, R = fun w' e => DecRet w w' b e := ⟨_, rfl⟩
  have HRB := Lib.hid (show ∀ w', goodB b = false → R w' (.returned (.tuple #[.pointer none, Hn.errI 3])) by
    intro w' hg
    rw [hR]
    show DecRet _ _ _ _
    unfold DecRet
    rw [if_neg (by rw [hg]; decide)])
  have HRG := Lib.hid (show ∀ w' p g, goodB b = true → w.heap.size ≤ p → w.heap.size ≤ g → FAt w' p g (decK b).1 (decBits b) → R w' (.returned (.tuple #[.pointer (some ⟨p, 0, none⟩), .nilIface])) by
    intro w' p g hg h1 h2 h3
    rw [hR]
    show DecRet _ _ _ _
    unfold DecRet
    rw [if_pos hg]
    exact ⟨p, g, rfl, h1, h2, h3⟩)
  rw [show (fun e w' => DecRet w w' b e ∧ Stay (fun _ => False) w w') = fun e w' => R w' e ∧ Stay (fun _ => False) w w' by rw [hR]]
  clear hR
  obtain ⟨G, hG⟩ : ∃ G, G = goodB b := ⟨_, rfl⟩
  rw [← hG] at HRB HRG
  unfold goodB at hG
  have hnl := Good.nle (b := b)
  have hkl := Good.kle (b := b)
  have hal := take_b_len 1048576 ⟨b, 0⟩
  have hkl2 := take_b_len 16 (decA b).2
  have hA : decA b = takeB (numB 1048576) 0 ⟨b, 0⟩ := rfl
  have hK : decK b = takeB (numB 16) 0 (decA b).2 := rfl
  have hX : decX b = takeB (textB 131072) [] (decK b).2 := rfl
  have hBits : decBits b = bitsOf (decA b).1 (decX b).1 := rfl
  rw [← hA] at hal
  rw [← hK] at hkl2
  generalize decBits b = DB at *
  generalize decX b = DX at *
  generalize decK b = DK at *
  generalize decA b = DA at *
  obtain ⟨n, sa⟩ := DA
  obtain ⟨k, sk⟩ := DK
  obtain ⟨x, sx⟩ := DX
  dsimp only at *
  have HG := Lib.hid hG
  have HA := Lib.hid hA
  have HK := Lib.hid hK
  have HX := Lib.hid hX
  have HB := Lib.hid hBits
  have HAL := Lib.hid hal
  have HKL := Lib.hid hkl2
  clear hG hA hK hX hBits hal hkl2
  go_enter Tryd.func8, Tryd.ntmps8
  go_wp2_with fail
  refine (read_cap w _ b hv hlen).mono ?_
  rintro e w1 ⟨p, rfl, hr1, hs1⟩
  go_wp2_with fail
  refine (ruint_at _ w1 p ⟨b, 0⟩ 1048576 _ (by rfl) hr1).mono ?_
  rintro e w2 ⟨rfl, hr2, hs2⟩
  rw [← HA.out] at hr2 ⊢
  dsimp only at hr2 ⊢
  unfold u64V
  go_wp2_with fail
  refine (ruint_at _ w2 p sa 16 _ (by rfl) hr2).mono ?_
  rintro e w3 ⟨rfl, hr3, hs3⟩
  rw [← HK.out] at hr3 ⊢
  dsimp only at hr3 ⊢
  unfold u64V
  have hpb := hr1.own
  have hz1 := hs1.size
  have HS3 := Lib.hid (show Stay (fun _ => False) w w3 from stay_seal (X := fun k => w.heap.size ≤ k) (((hs1.mono (fun _ x => x.elim)).trans (hs2.mono (fun i (hi : i = p) => by have := hpb.1; omega))).trans (hs3.mono (fun i (hi : i = p) => by have := hpb.1; omega))) (fun k hk => hk))
  have hpl := hpb.1
  clear hr1 hr2 hs1 hs2 hs3 hpb
  go_wp2_with fail
  refine (bytesFor_any 1048576 _ (by decide)).mono ?_
  rintro e w4 ⟨rfl, rfl⟩
  rw [show need 1048576 = 131072 by decide]
  go_wp2_with fail
  refine (rbytes_any _ w3 p sk 131072 hr3 (by have h1 := HAL.out; have h2 := HKL.out; omega) (by decide)).mono ?_
  rintro e w4 ⟨⟨vx, rfl, hox⟩, hr4, hs4⟩
  rw [← HX.out] at hox hr4
  dsimp only at hox hr4
  have HS4 := Lib.hid (stay_seal (X := fun k => w.heap.size ≤ k) ((HS3.out.mono (fun _ x => x.elim)).trans (hs4.mono (fun i (hi : i = p) => by omega))) (fun k hk => hk))
  obtain ⟨xa, xc, rfl⟩ := hox.form
  have HOX := Lib.hid hox
  have HR4 := Lib.hid hr4
  have hz3 := HS3.out.size
  clear hr3 hs4 hox hr4
  by_cases hnk : 1 ≤ n ∧ 1 ≤ k
  · obtain ⟨hn1, hk1⟩ := hnk
    have hzw : w.heap.size ≤ w4.heap.size := HS4.out.size
    go_wp2_with fail
    refine (new_any n k w4 hn1 hnl hk1 hkl).mono ?_
    rintro e w5 ⟨pf, gf, rfl, hpf, hgf, hf5, hs5⟩
    obtain ⟨_, _, _, _, hne, m, c, hm, hp, ho⟩ := hf5
    rw [List.length_replicate] at hm hp
    have cp2 : w5.cell? ⟨pf, 2, none⟩ = some (.slice (some ⟨gf, 0, none⟩) m c) := by rw [cell_of_row w5 pf 2 _ _ _ hp]; rfl
    have fp2 : w5.frozen? ⟨pf, 2, none⟩ = false := frozen_of_row w5 pf 2 _ _ hp
    have HS5 := Lib.hid (HS4.out.trans hs5)
    have HM := Lib.hid hm
    have HP := Lib.hid hp
    have HR5 := Lib.hid (HR4.out.stay0 hs5)
    have HO5 := Lib.hid (HOX.out.stay0 hs5)
    clear hs5 hm hp ho
    go_wp2_with fail
    refine (rdone_any _ w5 p sx HR5.out).mono ?_
    rintro e w6 ⟨rfl, rfl⟩
    by_cases hd : doneB sx = 0
    · rw [hd, errV_zero]
      by_cases hl : x.length = m
      · have hx0 : 0 < x.length := by rw [hl, HM.out]; unfold need; omega
        subst hl
        go_wp2_with fail
        refine (odd_any w5 _ x n HO5.out.slc hx0 hnl).mono ?_
        rintro e w6 ⟨rfl, rfl⟩
        cases hod : oddB x n
        · have HOD := Lib.hid hod
          have HD := Lib.hid hd
          clear hod hd
          have hG : G = true := by rw [HG.out, decide_eq_true hn1, decide_eq_true hk1, decide_eq_true HD.out, decide_eq_true HM.out, HOD.out]; rfl
          have HGT := Lib.hid hG
          clear hG
          obtain ⟨xg, xcc, hxe, hxg, hxg2⟩ := row_at HO5.out hx0
          cases hxe
          have hxl := HOX.out.lt xg rfl
          have HPX := Lib.hid (show pf ≠ xg by omega)
          have HPF := Lib.hid (show w.heap.size ≤ pf by omega)
          have HXG := Lib.hid (show w.heap.size ≤ xg by omega)
          clear hxg hxg2 hxl hpf hgf
          go_wp2
          go_ret2
          have hs7 : Stay (fun i => i = pf) w5 (w5.setCell ⟨pf, 2, none⟩ (.slice (some ⟨xg, 0, none⟩) x.length xc)) := Stay.setCell _ ⟨pf, 2, none⟩ _ rfl
          refine ⟨HRG.out _ pf xg HGT.out HPF.out HXG.out ?_, stay_seal (X := fun k => w.heap.size ≤ k) ((HS5.out.mono (fun _ x => x.elim)).trans (hs7.mono (fun i (hi : i = pf) => by have := HPF.out; show w.heap.size ≤ i; omega))) (fun k hk => hk)⟩
          have his : IsP DB x := by rw [HB.out]; exact bitsOf_is hn1 HM.out HOD.out
          have hln : DB.length = n := by rw [HB.out]; exact bitsOf_len _ _
          refine ⟨by omega, by omega, hk1, hkl, HPX.out, x.length, xc, by rw [hln]; exact HM.out, ?_, ?_⟩
          · rw [hln]
            exact heap_setCell_same w5 pf 2 _ _ _ HP.out
          · rw [← his.is]
            exact (HO5.out.base (fun k _ => Nat.zero_le k)).stay hs7 (fun k hk => by cases hk; exact fun e => HPX.out e.symm)
        · have hGF : G = false := by rw [HG.out, hod]; simp
          have HGF := Lib.hid hGF
          clear hGF hod
          go_wp2
          go_ret2
          exact ⟨HRB.out _ HGF.out, HS5.out⟩
      · have hGF : G = false := by rw [HG.out, decide_eq_false (p := x.length = need n) (fun e => hl (e.trans HM.out.symm))]; simp
        have HGF := Lib.hid hGF
        clear hGF
        go_wp2
        go_ret2
        exact ⟨HRB.out _ HGF.out, HS5.out⟩
    · have hGF : G = false := by rw [HG.out, decide_eq_false (p := doneB sx = 0) hd]; simp
      have HGF := Lib.hid hGF
      rw [errV_pos hd]
      unfold errI
      clear hGF hd
      go_wp2
      go_ret2
      exact ⟨HRB.out _ HGF.out, HS5.out⟩
  · have hGF : G = false := by
      rw [HG.out]
      rcases Nat.lt_or_ge n 1 with h | h
      · rw [decide_eq_false (by omega)]; rfl
      · rw [decide_eq_false (p := 1 ≤ k) (fun hk => hnk ⟨h, hk⟩)]; simp
    have HGF := Lib.hid hGF
    clear hGF
    go_wp2_with fail
    refine (new_bad n k w4 (by omega) (by omega) (by omega) (by omega) (by omega)).mono ?_
    rintro e w5 ⟨rfl, rfl⟩
    unfold Hn.errI
    go_wp2
    go_ret2
    exact ⟨HRB.out _ HGF.out, HS4.out⟩

end Go.Proofs.YtgchdgdhjafdbaaDoor.Bo
