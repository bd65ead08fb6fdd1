/-
  rs: add: a list, times a factor, added to a sum.
-/
import Derived.Test.YtaldpfamgfchoabRsB
import Derived.Deep.RegionWith
import Derived.Deep.RegionHeld3
namespace Go.Proofs.Ytaldpfamgfchoab.Rs
open Go.RowKit Gf
set_option maxRecDepth 100000

/-- A list, times a factor, added to the first j numbers. -/
def addTo (f q : Nat → UInt8) (b : UInt8) (j : Nat) : Nat → UInt8 := fun i => if i < j then f i ^^^ mulB b (q i) else f i
theorem addTo_put (f q : Nat → UInt8) (b : UInt8) (j i : Nat) : putB (addTo f q b j) j (f j ^^^ mulB b (q j)) i = addTo f q b (j + 1) i := by
  unfold putB addTo
  by_cases e : i = j
  · subst e; rw [if_pos rfl, if_pos (by omega)]
  · rw [if_neg e]
    by_cases h : i < j
    · rw [if_pos h, if_pos (by omega)]
    · rw [if_neg h, if_neg (by omega)]
theorem cast_mul (a b : UInt8) : ((mulN a.toNat b.toNat : Nat) : Int) = ((mulB a b).toNat : Int) := by rw [mulB_nat]
theorem cast_xor (a b : UInt8) : ((a.toNat ^^^ b.toNat : Nat) : Int) = ((a ^^^ b).toNat : Int) := by rw [UInt8.toNat_xor]

set_option maxHeartbeats 2000000 in
theorem add_sum (w : World) (g gs n cs l c : Nat) (f q : Nat → UInt8) (b : UInt8) (a0 : Option Addr) (hf : Fld w g) (hne : gs ≠ g) (hs : FB w gs n f) (hq : SSlc (fun k => k = g ∨ k = gs) w (.slice a0 l c) (lf l q)) (hl : l ≤ n) (hn : n ≤ 4611686018427387904) :
    Calls Try.prog 24 #[.pointer (some ⟨g, 0, none⟩), .slice (some ⟨gs, 0, none⟩) n cs, .int .u8 (b.toNat : Int), .slice a0 l c] w fun e w' => e = .returned (.tuple #[]) ∧ FB w' gs n (addTo f q b l) ∧ Fld w' g ∧ Stay (fun k => k = g ∨ k = gs) w w' := by
  have HF := Lib.hid hf
  have HNE := Lib.hid hne
  have HS := Lib.hid hs
  have HQ := Lib.hid hq
  have HL := Lib.hid hl
  have q0 : (l : Int) ≤ 4611686018427387904 := by omega
  have HN := Lib.hid hn
  clear hf hne hs hq hl hn
  by_cases h0 : b = 0
  · subst h0
    rw [show (((0 : UInt8).toNat : Nat) : Int) = 0 from rfl]
    go_enter Try.func24, Try.ntmps24
    go_wp2
    refine bodyPost_ret (results_none rfl _ _ _) rfl ?_
    refine ⟨rfl, HS.out.congr (fun i _ => ?_), HF.out, Stay.refl _ _⟩
    unfold addTo
    split
    · rw [zero_mulB, UInt8.xor_zero]
    · rfl
  · have e0 : ((b.toNat : Int) == 0) = false := by have := u8_ne h0; simp; omega
    have HB := Lib.hid (u8_lt b)
    clear h0
    go_enter Try.func24, Try.ntmps24
    go_wp2
    clear e0
    go_loopw [14] (fun i wr => ∃ j : Nat, j ≤ l ∧ i = .int .i64 (j : Int) ∧ FB wr gs n (addTo f q b j) ∧ Fld wr g ∧ Stay (fun k => k = g ∨ k = gs) w wr) (fun i _ => l - (intOf i).toNat)
    case atStart => exact ⟨0, by omega, rfl, HS.out.congr (fun i _ => (if_neg (by omega)).symm), HF.out, Stay.refl _ _⟩
    case round =>
      obtain ⟨j, hj, rfl, hs, hf, hst⟩ := hrel
      by_cases hlt : j < l
      · have q1 : (j : Int) < (l : Int) := by omega
        have q2 : (j : Int) < (n : Int) := by have := HL.out; omega
        obtain ⟨ad, rfl, cq⟩ := Slc.at (HQ.out.stay hst).now hlt
        have cs0 := hs.c (i := j) (by have := HL.out; omega)
        rw [show addTo f q b j j = f j from if_neg (by omega)] at cs0
        have fs0 := hs.fr j
        have HSS := Lib.hid hs
        have HFF := Lib.hid hf
        have HST := Lib.hid hst
        have HJ := Lib.hid hlt
        clear hs hf hst hlt
        go_wp2
        go_region_with (first
          | (go_at_call 29
             refine (mul_any _ g b.toNat (q j).toNat HB.out (u8_lt _) (HFF.out.stay (Stay.drew (X := fun _ => False)) (fun x => x))).mono ?_
             rintro e w3 ⟨rfl, h3, s3⟩
             have cs3 := s3.cell (show (World.drew wr).cell? ⟨gs, j, none⟩ = _ from cs0) HNE.out
             have HS3 := Lib.hid (FB.stay (show FB (World.drew wr) gs n (addTo f q b j) from HSS.out) s3 HNE.out)
             have fs3 := HS3.out.fr j
             have F3 := Lib.hid h3
             have S3 := Lib.hid s3
             clear h3 s3)
          | (go_at_call 30
             refine (add_any _ g (f j).toNat (mulN b.toNat (q j).toNat) (u8_lt _) (mulN_lt _ _)).mono ?_
             rintro e w4 ⟨rfl, rfl⟩))
        all_goals
          have h5 := HS3.out.set (k := j) (by have := HJ.out; have := HL.out; omega) (f j ^^^ mulB b (q j))
          rw [UInt8.toNat_xor, mulB_nat] at h5
          have s5 : Stay (fun i => i = gs) w4 (w4.setCell ⟨gs, j, none⟩ (.int .u8 (((f j).toNat ^^^ mulN b.toNat (q j).toNat : Nat) : Int))) := Stay.setCell _ _ _ rfl
          generalize w4.setCell _ _ = w5 at h5 s5 ⊢
          have H5 := Lib.hid h5
          have S5 := Lib.hid (((HST.out.trans Stay.drew).trans (S3.out.mono (fun _ e => .inl e))).trans (s5.mono (Y := fun i => i = g ∨ i = gs) (fun _ e => .inr e)))
          have F5 := Lib.hid (F3.out.stay s5 (fun e => HNE.out e.symm))
          clear h5 s5 cs3 fs3 cs0 fs0 cq
          go_wp2
          have hj := HJ.out
          exact ⟨⟨j + 1, by omega, by go_num, H5.out.congr (fun i _ => addTo_put f q b j i), F5.out, S5.out⟩, by simp [intOf]; omega⟩
      · obtain rfl : j = l := by omega
        have HSS := Lib.hid hs
        have HFF := Lib.hid hf
        have HST := Lib.hid hst
        clear hs hf hst
        go_wp2
        go_end0
        exact ⟨rfl, HSS.out, HFF.out, HST.out⟩
end Go.Proofs.Ytaldpfamgfchoab.Rs
