/-
  rs: all parts of data.
-/
import Derived.Test.YtaldpfamgfchoabRsF
namespace Go.Proofs.Ytaldpfamgfchoab.Rs
open Go.RowKit Gf
set_option maxRecDepth 100000

theorem Cd.stayb {w w' : World} {c g k m : Nat} {X : Nat → Prop} (h : Cd w c g k m) (hs : Stay X w w') (hc : ¬ X c) (hg : ¬ X g) : Cd w' c g k m := ⟨(hs.block c h.lt hc).trans h.blk, h.f.stay hs hg, h.ne, h.k1, h.km⟩

set_option maxHeartbeats 4000000 in
theorem all_any (w : World) (c g k m len : Nat) (x : Value) (D : Nat → Nat → UInt8) (hc : Cd w c g k m) (hx : SM (· = g) w x k (fun _ => len) D) (hl : len ≤ 281474976710656) :
    Calls Try.prog 14 #[.pointer (some ⟨c, 0, none⟩), x] w fun e w' => ∃ v, e = .returned v ∧ SM (fun i => i < w.heap.size) w' v (k + m) (fun _ => len) (prodF k (rowF k) D) ∧ Cd w' c g k m ∧ Stay (· = g) w w' := by
  obtain ⟨n, hn⟩ : ∃ n, n = k + m := ⟨_, rfl⟩
  have q1 : (n : Int) ≤ 32 := by have := hc.km; omega
  have HN := Lib.hid hn
  have HC := Lib.hid hc
  have HX := Lib.hid hx
  have HL := Lib.hid hl
  have HG := Lib.hid (show g < w.heap.size from hc.f.lt)
  rw [← hn]
  clear hn hc hx hl
  go_enter Try.func14, Try.ntmps14
  go_wp2_with fail
  refine (parts_any HC.out).mono ?_
  rintro e w' ⟨rfl, rfl⟩
  rw [← HN.out]
  go_wp2_with (first
    | (with_reducible refine make_l rfl _ _ rfl n rfl rfl (by have := HC.out.km; have := HN.out; omega) ?_
       intro w1 h1 s1 l1
       have HB := Lib.hid h1
       have S1 := Lib.hid s1
       clear h1 s1 l1))
  obtain ⟨gb, hgb⟩ : ∃ gb, gb = w'.heap.size := ⟨_, rfl⟩
  rw [← hgb] at HB
  rw [← hgb]
  have HGB := Lib.hid hgb
  clear hgb
  go_loopw [12] (fun i wr => ∃ (t : Nat) (h : Nat → Nat), t ≤ n ∧ i = .int .i64 (t : Int) ∧ PM wr gb gb n k t h (rowF k) ∧ Cd wr c g k m ∧ Stay (· = g) w' wr) (fun i _ => n - (intOf i).toNat)
  case atStart => exact ⟨0, fun _ => 0, by omega, rfl, PM.start HB.out (Nat.le_refl _), HC.out.stay0 S1.out, S1.out.mono (fun _ x => x.elim)⟩
  case round =>
    obtain ⟨t, h, ht, rfl, hp, hf, hst⟩ := hrel
    by_cases hlt : t < n
    · have q4 : (t : Int) < (n : Int) := by omega
      have HP := Lib.hid hp
      have HFF := Lib.hid hf
      have HST := Lib.hid hst
      have HT := Lib.hid hlt
      clear hp hf hst hlt
      go_wp2_with fail
      refine (row_any wr c g k m t HFF.out (by have := HT.out; have := HN.out; omega)).mono ?_
      rintro e w2 ⟨rfl, h2, c2, s2⟩
      have HB2 := Lib.hid h2
      have C2 := Lib.hid c2
      have S2 := Lib.hid s2
      have P2 := Lib.hid (HP.out.stayg s2 (by have := HG.out; have := HGB.out; omega))
      clear h2 c2 s2
      go_wp2_with (first
        | (with_reducible refine store_l rfl (.tmp 20) (.tmp 19) rfl t (some ⟨wr.heap.size, 0, none⟩) k k rfl rfl P2.out.lb HT.out ?_
           intro w3 h3 s3
           have P3 := Lib.hid (P2.out.push h3 rfl rfl s3 HB2.out (by have := HST.out.size; have := HGB.out; omega) (by have := HST.out.size; have := HP.out.lb.lt; omega) (fun i hi e => by have := HP.out.lt i hi; omega))
           have S3 := Lib.hid s3
           clear h3 s3))
      have ht := HT.out
      have hgb := HGB.out
      exact ⟨⟨t + 1, _, by omega, by go_num, P3.out.congr (fun i _ b _ => by by_cases e : i = t <;> simp [e]), C2.out.stayb S3.out (fun e => by have := HC.out.lt; omega) (fun e => by have := HG.out; omega), (HST.out.trans S2.out).andThen S3.out (fun i hi e => by omega)⟩, by simp [intOf]; omega⟩
    · obtain rfl : t = n := by omega
      have PP := Lib.hid hp
      have FF := Lib.hid hf
      have ST := Lib.hid hst
      have c2 := hf.c2
      clear hp hf hst
      go_wp2_with fail
      have hn := HN.out
      have hkm := HC.out.km
      have hgb := HGB.out
      have hrd := PP.out.read (by omega) (by omega)
      refine (product_any wr g t k len _ x (rowF k) D FF.out.f (hrd.mono (fun i (e : i = g) => by have := HG.out; omega)) (HX.out.stay ST.out) HC.out.k1 (by omega) (by omega) HL.out).mono ?_
      rintro e w4 ⟨v, rfl, h4, f4, s4⟩
      obtain ⟨a4, c4, rfl, _⟩ := h4.form
      have H4 := Lib.hid h4
      have F4 := Lib.hid f4
      have S4 := Lib.hid s4
      clear h4 f4 s4 hrd hn hkm hgb c2
      go_wp2
      go_ret
      exact ⟨_, rfl, H4.out.mono (fun i hi => Nat.lt_of_lt_of_le hi ST.out.size), FF.out.stay S4.out F4.out, ST.out.trans S4.out⟩
end Go.Proofs.Ytaldpfamgfchoab.Rs
