/-
  rs: Split.
-/
import Derived.Test.YtaldpfamgfchoabRsR
namespace Go.Proofs.Ytaldpfamgfchoab.Rs
open Go.RowKit Gf
set_option maxRecDepth 100000

theorem split_nil (w : World) (x : Value) : Calls Try.prog 7 #[.pointer none, x] w fun e w' => e = .returned (.slice none 0 0) ∧ w' = w := by
  go_enter Try.func7, Try.ntmps7
  go_wp2_with fail
  refine (data_nil w).mono ?_
  rintro e w' ⟨rfl, rfl⟩
  go_wp2
  go_ret
  exact ⟨rfl, rfl⟩

/-- How long parts are. -/
def lenS (l k : Nat) : Nat := (l + k - 1) / k
/-- A text's parts: noughts behind. -/
def splitF (l n : Nat) (q : Nat → UInt8) : Nat → Nat → UInt8 := fun i b => if i * n + b < l then q (i * n + b) else 0

set_option maxHeartbeats 4000000 in
theorem split_any (w : World) (c g k m l : Nat) (x : Value) (q : Nat → UInt8) (hc : Cd w c g k m) (hx : SSlc (fun _ => False) w x (lf l q)) (hl : l ≤ 140737488355328) :
    Calls Try.prog 7 #[.pointer (some ⟨c, 0, none⟩), x] w fun e w' => ∃ v, e = .returned v ∧ SM (fun i => i < w.heap.size) w' v k (fun _ => lenS l k) (splitF l (lenS l k) q) ∧ Stay (fun _ => False) w w' := by
  obtain ⟨a0, c0, rfl, hlc, hcm⟩ := hx.form
  rw [length_lf] at hlc hx ⊢
  obtain ⟨n, hn⟩ : ∃ n, n = lenS l k := ⟨_, rfl⟩
  rw [← hn]
  have k0 := hc.c0
  have q0 : ((k : Int) == 0) = false := by have := hc.k1; simp; omega
  have q1 : (k : Int) ≤ 32 := by have := hc.km; omega
  have q2 : 1 ≤ (k : Int) := by have := hc.k1; omega
  have q3 : (l : Int) ≤ 140737488355328 := by omega
  have hq : ((l : Int) + (k : Int) - 1) / (k : Int) = (n : Int) := by
    have e : ((l + k - 1 : Nat) : Int) = (l : Int) + (k : Int) - 1 := by have := hc.k1; omega
    rw [hn, ← e]
    rfl
  have hnl : n ≤ l + k - 1 := by rw [hn]; exact Nat.div_le_self _ _
  have q4 : (n : Int) ≤ 140737488355360 := by omega
  have HQ := Lib.hid hq
  have HC := Lib.hid hc
  have HX := Lib.hid (show SSlc (fun i => w.heap.size ≤ i) w (.slice a0 l c0) (lf l q) from fun u hu => hx u (stay_seal hu (fun _ h => h)))
  have HN := Lib.hid hn
  have HL := Lib.hid hl
  clear hc hx hn hl hlc hcm hq hnl
  go_enter Try.func7, Try.ntmps7
  go_wp2_with fail
  refine (data_any HC.out).mono ?_
  rintro e w' ⟨rfl, rfl⟩
  go_wp2
  go_region
  rw [HQ.out]
  have C1 := Lib.hid (HC.out.stay0 (Stay.drew (X := fun _ => False)))
  have k1 := C1.out.c0
  clear k0
  go_wp2_with (first
    | (with_reducible refine make_l rfl _ _ rfl k rfl rfl (by have := HC.out.km; omega) ?_
       intro w1 h1 s1 l1
       have HB := Lib.hid h1
       have S1 := Lib.hid ((Stay.drew (X := fun _ => False) (w := w')).trans s1)
       clear h1 s1 l1))
  obtain ⟨gb, hgb⟩ : ∃ gb, gb = w'.heap.size := ⟨_, rfl⟩
  have HB := Lib.hid (show LB w1 gb k (fun _ => .slice none 0 0) from hgb ▸ HB.out)
  rw [← hgb]
  have HGB := Lib.hid hgb
  clear hgb
  go_loopw [1, 31] (fun v i wr => ∃ (t : Nat) (h : Nat → Nat) (a1 : Option Addr) (c1 : Nat), t ≤ k ∧ i = .int .i64 (t : Int) ∧ v = .slice a1 (l - min (t * n) l) c1 ∧ SSlc (fun i => w'.heap.size ≤ i) w' (.slice a1 (l - min (t * n) l) c1) (lf (l - min (t * n) l) (fun i => q (min (t * n) l + i))) ∧
    PM wr gb gb k n t h (splitF l n q) ∧ Stay (fun _ => False) w' wr) (fun _ i _ => k - (intOf i).toNat)
  case atStart =>
    refine ⟨0, fun _ => 0, a0, c0, by omega, rfl, ?_, ?_, PM.start HB.out (Nat.le_refl _), S1.out⟩
    · rw [Nat.zero_mul, Nat.zero_min, Nat.sub_zero]
    · rw [Nat.zero_mul, Nat.zero_min, Nat.sub_zero]
      simp only [Nat.zero_add]
      exact HX.out
  case round =>
    obtain ⟨wr0, hwr0⟩ : ∃ x, x = wr := ⟨_, rfl⟩
    rw [← hwr0] at hrel ⊢
    clear hwr0 wr
    obtain ⟨t, h, a1, c1, ht, rfl, rfl, hx, hp, hst⟩ := hrel
    by_cases hlt : t < k
    · have q5 : (t : Int) < (k : Int) := by omega
      obtain ⟨off, hoff⟩ : ∃ off, off = min (t * n) l := ⟨_, rfl⟩
      rw [← hoff] at hx ⊢
      obtain ⟨r, hr⟩ : ∃ r, r = l - off := ⟨_, rfl⟩
      rw [← hr] at hx ⊢
      obtain ⟨d, hd⟩ : ∃ d, d = min n r := ⟨_, rfl⟩
      have q6 : (d : Int) ≤ (r : Int) := by omega
      have HD := Lib.hid hd
      have HR := Lib.hid hr
      have HOFF := Lib.hid hoff
      have HXX := Lib.hid hx
      have HP := Lib.hid hp
      have HST := Lib.hid hst
      have HT := Lib.hid hlt
      have HGS := Lib.hid (show w'.heap.size ≤ wr0.heap.size from hst.size)
      have HGT := Lib.hid (show gb < wr0.heap.size from hp.lb.lt)
      clear hx hp hst hlt hd hr hoff
      have fin : ∀ (w4 : World), FB w4 wr0.heap.size n (cpF (fun _ => 0) 0 d (fun i => q (off + i))) → ∀ w3 h3, PM w3 gb gb k n (t + 1) h3 (fun i => if i = t then (fun _ => 0) else splitF l n q i) → h3 t = wr0.heap.size → Stay (fun i => i = wr0.heap.size) w3 w4 → Stay (fun i => w'.heap.size ≤ i) w' w3 →
          PM w4 gb gb k n (t + 1) h3 (splitF l n q) ∧ Stay (fun _ => False) w' w4 := by
        intro w4 hb4 w3 h3 p3 e3 s4 s3
        refine ⟨?_, stay_seal (s3.trans (s4.mono (fun i (e : i = wr0.heap.size) => by have := HGS.out; omega))) (fun _ h => h)⟩
        have hb4' : FB w4 (h3 t) n (cpF (fun _ => 0) 0 d (fun i => q (off + i))) := by rw [e3]; exact hb4
        have hg0 : (0 : Nat) < gb := by have := HC.out.lt; have := HGB.out; omega
        refine (p3.upd (g := 0) (Nat.lt_succ_self t) hb4' (s4.mono (fun i (e : i = wr0.heap.size) => .inr (e.trans e3.symm))) hg0).congr (fun i _ b hb => ?_)
        by_cases e : i = t
        · simp only [e, if_true]
          unfold cpF splitF
          have h1 := HOFF.out
          have h2 := HR.out
          have h3 := HD.out
          by_cases e2 : t * n + b < l
          · rw [if_pos (by omega), if_pos e2, Nat.sub_zero, show off = t * n by omega]
          · rw [if_neg (by omega), if_neg e2]
        · simp only [e, if_false]
      have HFIN := Lib.hid fin
      clear fin
      by_cases hcb : c1 = d
      · subst hcb
        go_wp2_with (first
          | (with_reducible refine make_b rfl _ _ rfl n rfl rfl (by omega) ?_
             intro w2 h2 s2 l2
             have HB2 := Lib.hid h2
             have S2 := Lib.hid (HST.out.trans s2)
             have P2 := Lib.hid (HP.out.stay0 s2)
             clear h2 s2 l2)
          | (with_reducible refine store_l rfl (.tmp 38) (.tmp 37) rfl t (some ⟨wr0.heap.size, 0, none⟩) n n rfl rfl P2.out.lb HT.out ?_
             intro w3 h3 s3
             have P3 := Lib.hid (P2.out.push h3 rfl rfl s3 HB2.out (by have := HGS.out; have := HGB.out; omega) (by have := HGT.out; omega) (fun i hi e => by have := HP.out.lt i hi; omega))
             have S3 := Lib.hid ((S2.out.mono (Y := fun i => w'.heap.size ≤ i) (fun _ x => x.elim)).trans (s3.mono (fun i (e : i = gb) => by have := HGB.out; omega)))
             have kt := P3.out.cell (i := t) (Nat.lt_succ_self _) HT.out
             rw [if_pos rfl] at kt
             have B3 := Lib.hid (P3.out.row t (Nat.lt_succ_self _))
             simp only [if_true] at B3
             obtain ⟨w4, hcp, h4, s4⟩ := run_copy_fb w3 3 (g := wr0.heap.size) (o := 0) (m := n) (c := n) (N := n) (c2 := c1) B3.out (by omega) (HXX.out w3 S3.out) c1 HD.out
             have FN := Lib.hid (HFIN.out w4 h4 w3 _ P3.out (if_pos rfl) s4 S3.out)
             clear h3 s3 h4 s4))
        have hoff := HOFF.out
        have hr := HR.out
        have hd := HD.out
        have ht := HT.out
        have hrec : l - min ((t + 1) * n) l = r - c1 := by rw [Nat.succ_mul]; omega
        have hoff2 : min ((t + 1) * n) l = off + c1 := by rw [Nat.succ_mul]; omega
        have hsl : SSlc (fun i => w'.heap.size ≤ i) w' (.slice a1 (r - c1) 0) (lf (r - c1) (fun i => q (off + c1 + i))) := fun u hu => by
          have h1 := Slc.cut (k := c1) (a0 := a1) (c := c1) (b := lf r (fun i => q (off + i))) (by rw [length_lf]; exact HXX.out u hu) (by rw [length_lf]; omega)
          have h2 := h1.1
          rw [length_lf, if_pos rfl, Nat.sub_self] at h2
          have e : (lf r (fun i => q (off + i))).drop c1 = lf (r - c1) (fun i => q (off + c1 + i)) := by
            apply List.ext_getElem?
            intro i
            rw [List.getElem?_drop]
            by_cases hi : i < r - c1
            · rw [lf_get _ hi, lf_get _ (by omega), Nat.add_assoc]
            · rw [List.getElem?_eq_none (by rw [length_lf]; omega), List.getElem?_eq_none (by rw [length_lf]; omega)]
          rw [e] at h2
          exact h2
        exact ⟨⟨t + 1, _, a1, _, by omega, by go_num, by rw [hrec], by rw [hrec, hoff2]; exact hsl, FN.out.1, FN.out.2⟩, by simp [intOf]; omega⟩
      · have HCB := Lib.hid hcb
        obtain ⟨ad, rfl⟩ : ∃ ad, a1 = some ad := by
          cases a1 with
          | some ad => exact ⟨ad, rfl⟩
          | none =>
            have h0 := (HXX.out w' (Stay.refl _ _))
            obtain ⟨_, _, e, _, h1, h2, _⟩ := h0
            rw [length_lf] at e
            cases e
            have := h1 rfl
            rw [length_lf] at h2
            have := HD.out
            omega
        go_wp2_with (first
          | (with_reducible refine make_b rfl _ _ rfl n rfl rfl (by omega) ?_
             intro w2 h2 s2 l2
             have HB2 := Lib.hid h2
             have S2 := Lib.hid (HST.out.trans s2)
             have P2 := Lib.hid (HP.out.stay0 s2)
             clear h2 s2 l2)
          | (with_reducible refine store_l rfl (.tmp 38) (.tmp 37) rfl t (some ⟨wr0.heap.size, 0, none⟩) n n rfl rfl P2.out.lb HT.out ?_
             intro w3 h3 s3
             have P3 := Lib.hid (P2.out.push h3 rfl rfl s3 HB2.out (by have := HGS.out; have := HGB.out; omega) (by have := HGT.out; omega) (fun i hi e => by have := HP.out.lt i hi; omega))
             have S3 := Lib.hid ((S2.out.mono (Y := fun i => w'.heap.size ≤ i) (fun _ x => x.elim)).trans (s3.mono (fun i (e : i = gb) => by have := HGB.out; omega)))
             have kt := P3.out.cell (i := t) (Nat.lt_succ_self _) HT.out
             rw [if_pos rfl] at kt
             have B3 := Lib.hid (P3.out.row t (Nat.lt_succ_self _))
             simp only [if_true] at B3
             obtain ⟨w4, hcp, h4, s4⟩ := run_copy_fb w3 3 (g := wr0.heap.size) (o := 0) (m := n) (c := n) (N := n) (c2 := c1) B3.out (by omega) (HXX.out w3 S3.out) d HD.out
             have FN := Lib.hid (HFIN.out w4 h4 w3 _ P3.out (if_pos rfl) s4 S3.out)
             clear h3 s3 h4 s4))
        have hoff := HOFF.out
        have hr := HR.out
        have hd := HD.out
        have ht := HT.out
        have hrec : l - min ((t + 1) * n) l = r - d := by rw [Nat.succ_mul]; omega
        have hoff2 : min ((t + 1) * n) l = off + d := by rw [Nat.succ_mul]; omega
        have hsl : SSlc (fun i => w'.heap.size ≤ i) w' (.slice (some (ad.add d)) (r - d) (c1 - d)) (lf (r - d) (fun i => q (off + d + i))) := fun u hu => by
          have h1 := Slc.cut (k := d) (a0 := some ad) (c := c1) (b := lf r (fun i => q (off + i))) (by rw [length_lf]; exact HXX.out u hu) (by rw [length_lf]; omega)
          have h2 := h1.1
          rw [length_lf, if_neg HCB.out] at h2
          have e : (lf r (fun i => q (off + i))).drop d = lf (r - d) (fun i => q (off + d + i)) := by
            apply List.ext_getElem?
            intro i
            rw [List.getElem?_drop]
            by_cases hi : i < r - d
            · rw [lf_get _ hi, lf_get _ (by omega), Nat.add_assoc]
            · rw [List.getElem?_eq_none (by rw [length_lf]; omega), List.getElem?_eq_none (by rw [length_lf]; omega)]
          rw [e] at h2
          exact h2
        exact ⟨⟨t + 1, _, some (ad.add d), _, by omega, by go_num, by rw [hrec], by rw [hrec, hoff2]; exact hsl, FN.out.1, FN.out.2⟩, by simp [intOf]; omega⟩
    · obtain rfl : t = k := by omega
      have PP := Lib.hid hp
      have ST := Lib.hid hst
      clear hx hp hst
      go_wp2
      go_ret
      refine ⟨_, rfl, ?_, ST.out⟩
      rw [← HGB.out]
      exact PP.out.read (by have := HC.out.km; omega) (by omega)
end Go.Proofs.Ytaldpfamgfchoab.Rs
