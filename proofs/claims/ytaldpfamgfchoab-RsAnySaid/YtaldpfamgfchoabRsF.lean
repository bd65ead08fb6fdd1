/-
  rs: product: rows times lists.
-/
import Derived.Test.YtaldpfamgfchoabRsN
namespace Go.Proofs.Ytaldpfamgfchoab.Rs
open Go.RowKit Gf
set_option maxRecDepth 100000

/-- Rows times lists. -/
def prodF (k : Nat) (R D : Nat → Nat → UInt8) : Nat → Nat → UInt8 := fun i b => sumB k (fun j => mulB (R i j) (D j b))

set_option maxHeartbeats 4000000 in
theorem product_any (w : World) (g n k len : Nat) (x y : Value) (R D : Nat → Nat → UInt8) (hf : Fld w g) (hx : SM (· = g) w x n (fun _ => k) R) (hy : SM (· = g) w y k (fun _ => len) D) (h1 : 1 ≤ k) (hk : k ≤ 4294967296) (hn : n ≤ 4294967296) (hl : len ≤ 281474976710656) :
    Calls Try.prog 18 #[.pointer (some ⟨g, 0, none⟩), x, y] w fun e w' => ∃ v, e = .returned v ∧ SM (fun i => i < w.heap.size) w' v n (fun _ => len) (prodF k R D) ∧ Fld w' g ∧ Stay (· = g) w w' := by
  obtain ⟨ax, cx, rfl, _⟩ := hx.form
  obtain ⟨ay, cy, rfl, _⟩ := hy.form
  have q1 : (n : Int) ≤ 4294967296 := by omega
  have q2 : (0 : Int) < (k : Int) := by omega
  have q6 : (k : Int) ≤ 4294967296 := by omega
  have q3 : (len : Int) ≤ 281474976710656 := by omega
  have HF := Lib.hid hf
  have HX := Lib.hid hx
  have HY := Lib.hid hy
  have H1 := Lib.hid h1
  have HN := Lib.hid hn
  have HL := Lib.hid hl
  have HG := Lib.hid (show g < w.heap.size from hf.lt)
  clear hf hx hy h1 hn hl
  go_enter Try.func18, Try.ntmps18
  go_wp2_with (first
    | (with_reducible refine make_l rfl _ _ rfl n rfl rfl HN.out ?_
       intro w1 h1 s1 l1
       have HB := Lib.hid h1
       have S1 := Lib.hid s1
       clear h1 s1 l1))
  obtain ⟨gb, hgb⟩ : ∃ gb, gb = w.heap.size := ⟨_, rfl⟩
  rw [← hgb] at HB
  rw [← hgb]
  have HGB := Lib.hid hgb
  clear hgb
  go_loopw [17] (fun i wr => ∃ (t : Nat) (h : Nat → Nat), t ≤ n ∧ i = .int .i64 (t : Int) ∧ PM wr gb gb n len t h (prodF k R D) ∧ Fld wr g ∧ Stay (· = g) w wr) (fun i _ => n - (intOf i).toNat)
  case atStart => exact ⟨0, fun _ => 0, by omega, rfl, PM.start HB.out (Nat.le_refl _), HF.out.stay S1.out (fun x => x), S1.out.mono (fun _ x => x.elim)⟩
  case round =>
    obtain ⟨wr0, hwr0⟩ : ∃ x, x = wr := ⟨_, rfl⟩
    rw [← hwr0] at hrel ⊢
    clear hwr0 wr
    obtain ⟨t, h, ht, rfl, hp, hf, hst⟩ := hrel
    by_cases hlt : t < n
    · have q4 : (t : Int) < (n : Int) := by omega
      obtain ⟨bx, ox, ak, ck, rfl, cR, sR, _⟩ := HX.out.row hlt
      obtain ⟨by_, oy, a0, c0, rfl, c0D, s0D, _⟩ := HY.out.row (k := 0) (by have := H1.out; omega)
      rw [Nat.add_zero] at c0D
      have k1 := (cR.stay hst).now
      have k2 := (c0D.stay hst).now
      have HP := Lib.hid hp
      have HFF := Lib.hid hf
      have HST := Lib.hid hst
      have HT := Lib.hid hlt
      have CR := Lib.hid cR
      have SR := Lib.hid sR
      have C0 := Lib.hid c0D
      clear hp hf hst hlt cR sR s0D c0D
      go_wp2_with (first
        | (with_reducible refine make_b rfl _ _ rfl len rfl rfl HL.out ?_
           intro w2 h2 s2 l2
           have HB2 := Lib.hid h2
           have S2 := Lib.hid s2
           have P2 := Lib.hid (HP.out.stay0 s2)
           have L2 := Lib.hid l2
           clear h2 s2 l2)
        | (with_reducible refine store_l rfl (.tmp 29) (.tmp 28) rfl t (some ⟨wr0.heap.size, 0, none⟩) len len rfl rfl P2.out.lb HT.out ?_
           intro w3 h3 s3
           have P3 := Lib.hid (P2.out.push h3 rfl rfl s3 HB2.out (by have := HST.out.size; have := HGB.out; omega) (by have := HST.out.size; have := HP.out.lb.lt; omega) (fun i hi e => by have := HP.out.lt i hi; omega))
           have S3 := Lib.hid s3
           clear h3 s3))
      obtain ⟨h', hh'⟩ : ∃ h', h' = (fun i => if i = t then wr0.heap.size else h i) := ⟨_, rfl⟩
      have HGS := Lib.hid (show w.heap.size ≤ wr0.heap.size from HST.out.size)
      have HGT := Lib.hid (show gb < wr0.heap.size from HP.out.lb.lt)
      have HH := Lib.hid (show h' t = wr0.heap.size by rw [hh']; exact if_pos rfl)
      rw [← hh'] at P3
      clear hh' k1 k2
      have F3 := Lib.hid ((HFF.out.stay S2.out (fun x => x)).stay S3.out (fun e => by have := HG.out; have := HGB.out; omega))
      have ST3 := Lib.hid ((HST.out.trans (S2.out.mono (fun _ x => x.elim))).andThen S3.out (fun i hi (e : i = gb) => by have := HGB.out; omega))
      go_loopw [32] (fun i wr => ∃ j : Nat, j ≤ k ∧ i = .int .i64 (j : Int) ∧ PM wr gb gb n len (t + 1) h' (fun i => if i = t then (fun b => sumB j (fun j => mulB (R t j) (D j b))) else prodF k R D i) ∧ Fld wr g ∧ Stay (· = g) w wr) (fun i _ => k - (intOf i).toNat)
      case atStart => exact ⟨0, by omega, rfl, P3.out, F3.out, ST3.out⟩
      case round =>
        obtain ⟨j, hj, rfl, hp, hf, hst⟩ := hrel
        by_cases hlt : j < k
        · have q5 : (j : Int) < (k : Int) := by omega
          obtain ⟨_, _, aj, cj, e, cD, sD, _⟩ := HY.out.row hlt
          cases e
          obtain ⟨adR, rfl, kR⟩ := Slc.at (SR.out.stay hst).now hlt
          have kS := hp.cell (i := t) (by omega) HT.out
          rw [HH.out] at kS
          have kD := (cD.stay hst).now
          have PP := Lib.hid hp
          have FF := Lib.hid hf
          have ST := Lib.hid hst
          have HJ := Lib.hid hlt
          have CD := Lib.hid cD
          have SD := Lib.hid sD
          clear hp hf hst hlt cD sD
          have SD2 := Lib.hid (SD.out.push (Y := fun i => i = g ∨ i = wr0.heap.size) ST.out (fun i hi e => by
            rcases e with e | e
            · exact e
            · have := HGS.out; omega))
          have SD3 := Lib.hid (show SCell (fun i => i = g ∨ i = wr0.heap.size) wr ⟨by_, oy + j, none⟩ (.slice aj len cj) from fun u hu => CD.out u (ST.out.andThen hu (fun i hi e => by
            rcases e with e | e
            · exact e
            · have := HGS.out; omega)))
          have HRW := Lib.hid (PP.out.row t (by omega))
          rw [HH.out] at HRW
          simp only [if_true] at HRW
          go_wp2
          go_region_held3 (fun W => W.cell? ⟨gb, t, none⟩ = some (.slice (some ⟨wr0.heap.size, 0, none⟩) len len) ∧ W.cell? ⟨by_, oy + j, none⟩ = some (.slice aj len cj)) (first | go_keep | exact ⟨cA, cB⟩)
            ((go_at_call 24
              refine (add_sum _ g wr0.heap.size len len len cj _ (D j) (R t j) aj (FF.out.stay (Stay.drew (X := fun _ => False)) (fun x => x)) (by have := HG.out; have := HGS.out; omega) (FB.stay HRW.out (Stay.drew (X := fun _ => False)) (fun x => x)) (SD2.out.stay Stay.drew) (Nat.le_refl _) (by have := HL.out; omega)).mono ?_
              rintro e w5 ⟨rfl, h5, f5, s5⟩
              have cA := s5.cell (show (World.drew wr).cell? ⟨gb, t, none⟩ = _ from kS) (by have := HG.out; have := HGT.out; have := HGB.out; simp; omega)
              have cB := (SD3.out.stay Stay.drew |>.stay s5).now
              have H5 := Lib.hid h5
              have F5 := Lib.hid f5
              have S5 := Lib.hid s5
              clear h5 f5 s5))
          have s6 : Stay (fun i => i = g ∨ i = h' t) wr w5 := by rw [HH.out]; exact (Stay.drew).trans S5.out
          have f6 : FB w5 (h' t) len (addTo (fun b => sumB j (fun j => mulB (R t j) (D j b))) (D j) (R t j) len) := by rw [HH.out]; exact H5.out
          have p6 := PP.out.upd (j := t) (by omega) f6 s6 (by have := HG.out; have := HGB.out; omega)
          have P6 := Lib.hid (p6.congr (R' := fun i => if i = t then (fun b => sumB (j + 1) (fun j => mulB (R t j) (D j b))) else prodF k R D i) (fun i _ b hb => by
            by_cases e : i = t
            · simp only [e, if_true]
              unfold addTo
              rw [if_pos hb]
              rfl
            · simp only [e, if_false]))
          have S6 := Lib.hid (ST.out.andThen s6 (fun i hi e => by
            rcases e with e | e
            · exact e
            · rw [HH.out] at e
              have := HGS.out
              omega))
          clear s6 f6 p6 cA cB kS kD kR
          go_wp2
          have hj := HJ.out
          go_round
          case rel => exact ⟨j + 1, by omega, by go_num, P6.out, F5.out, S6.out⟩
          case measure => simp [intOf]; omega
        · obtain rfl : j = k := by omega
          have PP := Lib.hid (hp.congr (R' := prodF j R D) (fun i _ b _ => by
            by_cases e : i = t
            · simp only [e, if_true]; rfl
            · simp only [e, if_false]))
          have FF := Lib.hid hf
          have ST := Lib.hid hst
          clear hp hf hst
          go_wp2
          have ht := HT.out
          exact ⟨⟨t + 1, h', by omega, by go_num, PP.out, FF.out, ST.out⟩, by simp [intOf]; omega⟩
    · obtain rfl : t = n := by omega
      have PP := Lib.hid hp
      have FF := Lib.hid hf
      have ST := Lib.hid hst
      clear hp hf hst
      go_wp2
      go_ret
      have hgb := HGB.out
      refine ⟨_, rfl, ?_, FF.out, ST.out⟩
      have := PP.out.read (by have := HN.out; omega) (by have := HL.out; omega)
      rw [← hgb]
      exact this
end Go.Proofs.Ytaldpfamgfchoab.Rs
