/-
  RsLost, walked: a text that is taken.
-/
import Derived.Test.YtaldpfamgfchoaaDoorRsWj
namespace Go.Proofs.YtaldpfamgfchoaaDoor.Rs
open Go.RowKit Gf
set_option maxRecDepth 100000

/-- Numbers that are read. -/
def SI (w : World) (x : Value) (n : Nat) (zs : Nat → Int) : Prop :=
  ∃ a0 c, x = .slice a0 n c ∧ n ≤ c ∧ c ≤ 9223372036854775807 ∧ (0 < n → ∃ b o, a0 = some ⟨b, o, none⟩ ∧ ∀ k, k < n → SCell (fun _ => False) w ⟨b, o + k, none⟩ (.int .i64 (zs k)))
/-- How long a part is: nothing, where it is lost. -/
def lenF (fl : Nat → Bool) (s : Nat) : Nat → Nat := fun i => if fl i = true then s else 0

theorem cat_congr {L : Nat → Nat} {D D' : Nat → Nat → UInt8} : ∀ {k : Nat}, (∀ i, i < k → ∀ b, b < L i → D i b = D' i b) → catF L D k = catF L D' k
  | 0, _ => rfl
  | k + 1, h => by rw [cat_succ, cat_succ, cat_congr (k := k) (fun i hi => h i (by omega)), lf_congr (h k (by omega))]
theorem join_made {w : World} {c g k m l N : Nat} {x : Value} {q : Nat → UInt8} (hc : Cd w c g k m) (hx : SM (fun _ => False) w x N (fun _ => lenS l k) (prodF k (rowF k) (splitF l (lenS l k) q))) (hN : k ≤ N) (hl : l ≤ 3000) :
    Calls Tryd.prog 15 #[.pointer (some ⟨c, 0, none⟩), x, .int .i64 (l : Int)] w fun e w' => ∃ v, e = .returned (.tuple #[v, .nilIface]) ∧ SSlc (fun _ => False) w' v (lf l q) ∧ Stay (fun _ => False) w w' := by
  have h1 := hc.k1
  have h2 := hc.km
  have h3 : lenS l k ≤ 3032 := Nat.le_trans (Nat.div_le_self _ _) (by omega)
  have h4 : k * lenS l k ≤ 32 * 3032 := Nat.mul_le_mul (by omega) h3
  have h5 := lenS_ge (l := l) h1
  have h6 := sumN_const (lenS l k) k
  refine (join_any hc hx hN l (by rw [h6]; omega) (by omega)).mono ?_
  rintro e w1 ⟨s1, ⟨hb, _⟩ | ⟨_, v, rfl, hv⟩⟩
  · rw [h6] at hb; omega
  · rw [cat_congr (L := fun _ => lenS l k) (D := prodF k (rowF k) (splitF l (lenS l k) q)) (D' := splitF l (lenS l k) q) (k := k) (fun i hi b _ => row_unit hi (fun j => splitF l (lenS l k) q j b)), join_split h1 q] at hv
    exact ⟨v, rfl, hv.mono (fun _ x => x.elim), s1⟩

set_option maxHeartbeats 4000000 in
theorem lost_good (w : World) (K M : Int) (ta : Option Addr) (lt tc : Nat) (q : Nat → UInt8) (hx : SSlc (fun _ => False) w (.slice ta lt tc) (lf lt q)) (hl : lt ≤ 2000) (al : Option Addr) (nl cl : Nat) (zs : Nat → Int) (hi : SI w (.slice al nl cl) nl zs) (hg : ErrCell w) :
    Calls Tryd.prog 4 #[sizeV K M, .slice ta lt tc, .slice al nl cl] w fun e w' => e = .returned (.bool true) ∧ Stay (fun _ => False) w w' := by
  unfold sizeV
  obtain ⟨kk, hkk, ek⟩ := mod_nat K 8 (by decide)
  obtain ⟨m, hm, em⟩ := mod_nat M 6 (by decide)
  have ek : (IntKind.u64.wrap K).tmod 8 = (kk : Int) := ek
  have em : (IntKind.u64.wrap M).tmod 6 = (m : Int) := em
  have EK := Lib.hid ek
  have EM := Lib.hid em
  clear ek em
  have ql : ¬ (2000 : Int) < (lt : Int) := by omega
  have ql2 : (lt : Int) ≤ 2000 := by omega
  have HL := Lib.hid hl
  have HX := Lib.hid hx
  have HI := Lib.hid hi
  have HG := Lib.hid hg
  clear hx hi hl hg
  go_enter Tryd.func4, Tryd.ntmps4
  go_wp2
  have hst : Stay (fun _ => False) w (w.alloc (.cells #[.int .i64 K, .int .i64 M] 23)) := Stay.alloc _ _
  have hsz := Sz.new w K M
  generalize w.alloc (.cells #[.int .i64 K, .int .i64 M] 23) = w0 at hst hsz ⊢
  obtain ⟨k0, k1⟩ := hsz.stay0 (Stay.drew (X := fun _ => False))
  go_region_held3 (fun W => W.cell? ⟨w.heap.size, 0, none⟩ = some (.int .i64 K) ∧ W.cell? ⟨w.heap.size, 1, none⟩ = some (.int .i64 M)) (first | exact ⟨k0, k1⟩ | go_keep) (fail)
  rw [EK.out, EM.out, wrap_small (kk : Int) (by omega) (by omega), wrap_small (1 + (kk : Int)) (by omega) (by omega), wrap_small (m : Int) (by omega) (by omega)]
  obtain ⟨k, hk⟩ : ∃ k : Nat, k = 1 + kk := ⟨_, rfl⟩
  rw [show 1 + (kk : Int) = (k : Int) from by omega]
  have hst := hst.trans (Stay.drew (X := fun _ => False))
  generalize w0.drew = w1 at hst ⊢
  have S1 := Lib.hid hst
  have HK := Lib.hid (show 1 ≤ k ∧ k + m ≤ 32 from by omega)
  clear hst hk hkk hm k0 k1 hsz
  go_wp2_with fail
  refine (new_good w1 k m HK.out.1 HK.out.2).mono ?_
  rintro e w2 ⟨c, rfl, _, hc2, s2⟩
  obtain ⟨g, hgg⟩ : ∃ g, g = w1.heap.size := ⟨_, rfl⟩
  rw [← hgg] at hc2
  have C2 := Lib.hid hc2
  have HGG := Lib.hid (show w.heap.size ≤ g ∧ 0 ≠ g from by
    have e1 := S1.out.size
    have e2 : 0 < w.heap.size := World.block_lt_of_cell? w ⟨0, 0, none⟩ HG.out
    omega)
  clear hc2 hgg
  have S2 := Lib.hid s2
  clear s2
  go_wp2_with fail
  refine (split_any w2 c g k m lt _ q C2.out (HX.out.stay (S1.out.trans S2.out)) (by have := HL.out; omega)).mono ?_
  rintro e w3 ⟨vp, rfl, hp, s3⟩
  have HP := Lib.hid (hp.mono (Y := (· = g)) (fun i (e : i = g) => by have := C2.out.f.lt; omega))
  have S3 := Lib.hid s3
  have C3 := Lib.hid (C2.out.stay0 s3)
  have HSL := Lib.hid (show lenS lt k ≤ 3000 from by
    have h1 := HK.out
    have h2 := HL.out
    unfold lenS
    exact Nat.le_trans (Nat.div_le_self _ _) (by omega))
  clear hp s3
  go_wp2_with fail
  refine (encode_good C3.out HP.out (evenB_true.2 (fun _ _ => rfl)) (by have := HSL.out; omega)).mono ?_
  rintro e w4 ⟨va, rfl, hv, hc4, s4⟩
  obtain ⟨N, hN⟩ : ∃ N, N = k + m := ⟨_, rfl⟩
  rw [← hN] at hv
  obtain ⟨aa, ca, rfl, _⟩ := hv.form
  have qN : (k : Int) + (m : Int) = (N : Int) := by omega
  have qN9 : ((N : Int) != (N : Int)) = false := by simp
  have qNN : (N : Int) ≤ 32 := by have := HK.out; omega
  have HNK := Lib.hid (show N = k + m ∧ N ≤ 32 ∧ 0 < N from by have := HK.out; omega)
  have HV := Lib.hid (hv.mono (Y := (· = g)) (fun i (e : i = g) => by have := C3.out.f.lt; omega))
  have C4 := Lib.hid hc4
  have S4 := Lib.hid s4
  have HW4 := Lib.hid (show Stay (fun i => w.heap.size ≤ i) w w4 from (((S1.out.trans S2.out).trans S3.out).mono (fun _ x => x.elim)).trans (s4.mono (fun i (e : i = g) => by have := HGG.out.1; omega)))
  clear hv hc4 s4 hN
  go_wp2_with fail
  refine (twins_al w4 _ N (fun _ => lenS lt k) _ (HV.out.mono (fun _ x => x.elim)) (by have := HNK.out; omega) (fun _ _ => by have := HSL.out; omega)).mono ?_
  rintro e w5 ⟨vt, rfl, ht, s5⟩
  obtain ⟨gt, ct, rfl, _⟩ := ht.at HNK.out.2.2
  have HT := Lib.hid ht
  have S5 := Lib.hid s5
  clear ht s5
  go_wp2_with (first
    | (refine make_f rfl (.tmp 78) (.tmp 78) rfl N rfl rfl (by have := HNK.out; omega) ?_
       intro w6 h6 s6 z6
       have HB6 := Lib.hid h6
       have S6 := Lib.hid s6
       have Z6 := Lib.hid z6
       clear h6 s6 z6))
  obtain ⟨gb, hgb⟩ : ∃ gb, gb = w5.heap.size := ⟨_, rfl⟩
  rw [← hgb] at HB6 ⊢
  have HLT := Lib.hid (HT.out.lt gt rfl)
  have HGB := Lib.hid (show gt < gb ∧ w4.heap.size ≤ gb ∧ gb < w6.heap.size from by have := HLT.out; have := S5.out.size; have := Z6.out; omega)
  have HT6 := Lib.hid (HT.out.push (Y := fun i => i < w4.heap.size ∨ i = gb) (S6.out.mono (fun _ x => x.elim)) (fun i h e => by rcases e with e | e <;> omega))
  clear hgb
  go_loopw [15] (fun i wr => ∃ t : Nat, t ≤ N ∧ i = .int .i64 (t : Int) ∧ BB wr gb N (fun i => decide (i < t)) ∧ Stay (· = gb) w6 wr) (fun i _ => N - (intOf i).toNat)
  case atStart => exact ⟨0, by omega, rfl, HB6.out.congr (fun i _ => by simp), Stay.refl _ _⟩
  case round =>
    obtain ⟨t, ht, rfl, hb, hst⟩ := hrel
    by_cases hlt : t < N
    · have q1 : (t : Int) < (N : Int) := by omega
      have hc := hb.c hlt
      have hf := hb.fr t
      have HB := Lib.hid hb
      have HST := Lib.hid hst
      have HLTN := Lib.hid hlt
      clear hb hst hlt
      go_wp2
      have hlt := HLTN.out
      have hb2 := (HB.out.set HLTN.out true).congr (f' := fun i => decide (i < t + 1)) (fun i _ => by
        unfold putF
        by_cases e : i = t
        · subst e; rw [if_pos rfl]; simp
        · rw [if_neg e]
          show decide (i < t) = decide (i < t + 1)
          by_cases h : i < t
          · rw [decide_eq_true h, decide_eq_true (by omega)]
          · rw [decide_eq_false h, decide_eq_false (by omega)])
      have hs2 := HST.out.trans (Stay.setCell (X := fun k => k = gb) _ (⟨gb, t, none⟩ : Addr) (.bool true) rfl)
      first
        | exact ⟨⟨t + 1, by omega, by go_num, hb2, hs2⟩, by simp [intOf]; omega⟩
        | (go_round
           case rel => exact ⟨t + 1, by omega, by go_num, hb2, hs2⟩
           case measure => simp [intOf]; omega)
    · obtain rfl : t = N := by omega
      have HB7 := Lib.hid (hb.congr (f' := fun _ => true) (fun i hi => by simp [hi]))
      have S7 := Lib.hid hst
      have HT7 := Lib.hid (HT6.out.stay (hst.mono (fun i (e : i = gb) => .inr e)))
      clear hb hst
      go_wp2
      go_loopw [16, 17] (fun v i wv => ∃ (r cnt : Nat) (fl : Nat → Bool), i = .int .i64 (r : Int) ∧ v = .int .i64 (cnt : Int) ∧ r ≤ nl ∧ r ≤ 40 ∧ BB wv gb t fl ∧ AL (fun i => i < w4.heap.size ∨ i = gb) w4.heap.size wv (.slice (some ⟨gt, 0, none⟩) t ct) t (lenF fl (lenS lt k)) (prodF k (rowF k) (splitF lt (lenS lt k) q)) ∧ (sel fl t).length + cnt = t ∧ Stay (fun i => i = gb ∨ i = gt) wr wv) (fun _ i _ => nl - (intOf i).toNat)
      case atStart => exact ⟨0, 0, fun _ => true, rfl, rfl, by omega, by omega, HB7.out, HT7.out.congr (fun i hi => by simp [lenF]) (fun _ _ _ _ => rfl), sel_all t, Stay.refl _ _⟩
      case round =>
        obtain ⟨r, cnt, fl, rfl, rfl, hr, hr4, hb, hal, hcnt, hst⟩ := hrel
        by_cases hlt : r < nl ∧ r < 40
        · have q1 : (r : Int) < (nl : Int) := by omega
          have q2 : (r : Int) < 40 := by omega
          obtain ⟨_, _, e0, _, _, h3⟩ := id HI.out
          cases e0
          obtain ⟨bl, ol, rfl, hcl⟩ := h3 (by omega)
          have k1 := (hcl r hlt.1 _ (stay_seal ((HW4.out.trans (((S5.out.trans S6.out).mono (fun _ x => x.elim)).trans (S7.out.mono (Y := fun i => w.heap.size ≤ i) (fun i (e : i = gb) => by have := HW4.out.size; have := HGB.out; omega)))).trans (hst.mono (fun i e => by have := HW4.out.size; have := HGB.out; have := HLT.out; rcases e with e | e <;> omega))) (fun _ h => h)))
          obtain ⟨pz, hpz, ez⟩ := mod_nat (zs r) t (by have := HNK.out; omega)
          have eu : IntKind.u64.wrap (t : Int) = (t : Int) := by simp [IntKind.wrap, IntKind.bits, IntKind.signed]; omega
          have ew : IntKind.i64.wrap (pz : Int) = (pz : Int) := wrap_small _ (by omega) (by omega)
          have q0 : ((t : Int) == 0) = false := by have := HNK.out; simp; omega
          have q3 : (pz : Int) < (t : Int) := by omega
          have q5 : (cnt : Int) ≤ 32 := by have := HNK.out; omega
          have HB := Lib.hid hb
          have HAL := Lib.hid hal
          have HCNT := Lib.hid hcnt
          have HST := Lib.hid hst
          have HR := Lib.hid hlt
          have HPZ := Lib.hid hpz
          have c1 := hb.c hpz
          have f1 := hb.fr pz
          clear hb hal hcnt hst hlt hcl h3
          by_cases hfl : fl pz = true
          · rw [hfl] at c1
            have HFL := Lib.hid hfl
            have HA2 := Lib.hid (HAL.out.stay (Stay.setCell (X := fun i => i < w4.heap.size ∨ i = gb) wr (⟨gb, pz, none⟩ : Addr) (.bool false) (.inr rfl)))
            have HRW := Lib.hid (show SSlc (fun j => (j < w4.heap.size ∨ j = gb) ∨ (Value.slice (some ⟨gt, 0, none⟩) t ct).ownBlock = some j) (wr.setCell ⟨gb, pz, none⟩ (.bool false)) (.slice none 0 0) (lf (lenF (putF fl pz false) (lenS lt k) pz) (prodF k (rowF k) (splitF lt (lenS lt k) q) pz)) from by
              rw [show lenF (putF fl pz false) (lenS lt k) pz = 0 from by simp [lenF, putF]]
              exact slc_nil _ _)
            clear hfl
            go_wp2_with (first
              | (refine store_al (X := fun i => i < w4.heap.size ∨ i = gb) (base := w4.heap.size) (L' := lenF (putF fl pz false) (lenS lt k)) rfl (.tmp 120) (.const (.slice none 0 0)) rfl pz rfl rfl HA2.out HPZ.out HRW.out (fun j hj hne => by simp [lenF, putF, hne]) (fun _ _ _ => rfl) ?_
                 intro w8 h8 s8
                 have H8 := Lib.hid h8
                 have S8 := Lib.hid s8
                 have HB8 := Lib.hid ((HB.out.set HPZ.out false).stay s8 (fun e => by have := HGB.out; omega))
                 clear h8 s8))
            have hr := HR.out
            have hcn := HCNT.out
            have hput := sel_put HFL.out HPZ.out
            have hs8 := (HST.out.trans (Stay.setCell (X := fun i => i = gb ∨ i = gt) wr (⟨gb, pz, none⟩ : Addr) (.bool false) (.inl rfl))).trans (S8.out.mono (Y := fun i => i = gb ∨ i = gt) (fun i e => .inr e))
            first
              | exact ⟨⟨r + 1, cnt + 1, putF fl pz false, by go_num, by go_num, by omega, by omega, HB8.out, H8.out, by omega, hs8⟩, by simp [intOf]; omega⟩
              | (go_round
                 case rel => exact ⟨r + 1, cnt + 1, putF fl pz false, by go_num, by go_num, by omega, by omega, HB8.out, H8.out, by omega, hs8⟩
                 case measure => simp [intOf]; omega)
          · have hfl : fl pz = false := by simpa using hfl
            rw [hfl] at c1
            go_wp2_with fail
            have hr := HR.out
            have hcn := HCNT.out
            first
              | exact ⟨⟨r + 1, cnt, fl, by go_num, rfl, by omega, by omega, HB.out, HAL.out, by omega, HST.out⟩, by simp [intOf]; omega⟩
              | (go_round
                 case rel => exact ⟨r + 1, cnt, fl, by go_num, rfl, by omega, by omega, HB.out, HAL.out, by omega, HST.out⟩
                 case measure => simp [intOf]; omega)
        · have hw4v : Stay (fun i => w4.heap.size ≤ i) w4 wr := (((S5.out.trans S6.out).mono (fun _ x => x.elim)).trans (S7.out.mono (Y := fun i => w4.heap.size ≤ i) (fun i (e : i = gb) => by have := HGB.out; omega))).trans (hst.mono (fun i e => by have := HGB.out; have := HLT.out; rcases e with e | e <;> omega))
          have h4v := stay_seal hw4v (fun _ h => h)
          have HCD := Lib.hid (C4.out.stay0 h4v)
          have HWV := Lib.hid (HW4.out.trans (h4v.mono (Y := fun i => w.heap.size ≤ i) (fun _ x => x.elim)))
          have HV9 := Lib.hid (HV.out.stay (h4v.mono (fun _ x => x.elim)))
          have HX1 := Lib.hid (show SM (· = g) wr (.slice (some ⟨gt, 0, none⟩) t ct) (k + m) (lenF fl (lenS lt k)) (prodF k (rowF k) (splitF lt (lenS lt k) q)) from by
            rw [← HNK.out.1]
            exact hal.read.mono (fun i (e : i = g) => .inl (by have := C4.out.f.lt; omega)))
          have HSB1 := Lib.hid (show SB (· = g) wr (.slice (some ⟨gb, 0, none⟩) t t) (k + m) fl from by
            rw [← HNK.out.1]
            exact hb.sb (by have := HNK.out; omega) (fun e => by have := C4.out.f.lt; have := HGB.out; omega))
          have HCNT := Lib.hid hcnt
          have hcases : (¬ (r : Int) < (nl : Int)) ∨ ((r : Int) < (nl : Int) ∧ ¬ (r : Int) < 40) := by omega
          clear hw4v h4v hb hal hcnt hst hlt
          rcases hcases with q1 | ⟨q1, q2⟩
          · skip
            by_cases hcm : cnt ≤ m
            · have q6 : ¬ (m : Int) < (cnt : Int) := by omega
              clear hcm
              go_wp2_with fail
              refine (decode_back (len := lenS lt k) HCD.out HX1.out HSB1.out (fun i _ hf => by simp [lenF, hf]) (by have := HSL.out; omega) (by rw [← HNK.out.1]; have := HCNT.out; have := HNK.out.1; omega)).mono ?_
              rintro e w9 ⟨v9, rfl, h9, hc9, s9⟩
              rw [← HNK.out.1] at h9
              have H9 := Lib.hid (h9.mono (Y := (· = g)) (fun i (e : i = g) => by have := HCD.out.f.lt; omega))
              have C9 := Lib.hid hc9
              have S9 := Lib.hid s9
              clear h9 hc9 s9
              go_wp2_with fail
              refine (lists_same w9 _ _ t _ _ (H9.out.mono (fun _ x => x.elim)) ((HV9.out.stay S9.out).mono (fun _ x => x.elim))).mono ?_
              rintro e w10 ⟨rfl, s10⟩
              have S10 := Lib.hid s10
              clear s10
              go_wp2_with fail
              refine (join_made (q := q) (C9.out.stay0 S10.out) ((H9.out.mono (Y := fun _ => False) (fun _ x => x.elim)).stay S10.out) (by have := HNK.out.1; omega) (by have := HL.out; omega)).mono ?_
              rintro e w11 ⟨vb, rfl, hb11, s11⟩
              have S11 := Lib.hid s11
              have HW11 := Lib.hid (show Stay (fun _ => False) w w11 from stay_seal (X := fun i => w.heap.size ≤ i) (((HWV.out.trans (S9.out.mono (fun i (e : i = g) => by have := HGG.out.1; omega))).trans (S10.out.mono (fun _ x => x.elim))).trans (s11.mono (fun _ x => x.elim))) (fun _ h => h))
              obtain ⟨ab, cb, e3, _⟩ := hb11.form
              rw [length_lf] at e3
              subst e3
              have y1 := conv_slc hb11.now
              have y2 := conv_slc (HX.out.stay HW11.out).now
              unfold strV at y1 y2
              generalize (⟨(lf lt q).toArray⟩ : ByteArray) = ba at y1 y2
              clear hb11 s11
              go_wp2_with fail
              clear y1 y2
              refine (sure_any w11).mono ?_
              rintro e w12 ⟨rfl, s12⟩
              have S12 := Lib.hid s12
              clear s12
              go_wp2
              try go_ret
              exact ⟨rfl, HW11.out.trans S12.out⟩
            · have q6 : (m : Int) < (cnt : Int) := by omega
              have HCM := Lib.hid hcm
              clear hcm
              go_wp2_with fail
              refine (decode_few (len := lenS lt k) HCD.out HX1.out HSB1.out (fun i _ hf => by simp [lenF, hf]) (by have := HSL.out; omega) (by rw [← HNK.out.1]; have := HCNT.out; have := HNK.out.1; have := HCM.out; omega)).mono ?_
              rintro e w9 ⟨rfl, _, s9⟩
              have S9 := Lib.hid s9
              have HW9 := Lib.hid (show Stay (fun _ => False) w w9 from stay_seal (X := fun i => w.heap.size ≤ i) (HWV.out.trans (s9.mono (fun i (e : i = g) => by have := HGG.out.1; omega))) (fun _ h => h))
              clear s9
              go_wp2_with fail
              refine (num_errno 20 w9 (HG.out.stay0 HW9.out)).mono ?_
              rintro e w10 ⟨rfl, s10⟩
              have S10 := Lib.hid s10
              clear s10
              go_wp2_with fail
              refine (sure_any w10).mono ?_
              rintro e w12 ⟨rfl, s12⟩
              have S12 := Lib.hid s12
              clear s12
              go_wp2
              try go_ret
              exact ⟨rfl, (HW9.out.trans S10.out).trans S12.out⟩
          · skip
            by_cases hcm : cnt ≤ m
            · have q6 : ¬ (m : Int) < (cnt : Int) := by omega
              clear hcm
              go_wp2_with fail
              refine (decode_back (len := lenS lt k) HCD.out HX1.out HSB1.out (fun i _ hf => by simp [lenF, hf]) (by have := HSL.out; omega) (by rw [← HNK.out.1]; have := HCNT.out; have := HNK.out.1; omega)).mono ?_
              rintro e w9 ⟨v9, rfl, h9, hc9, s9⟩
              rw [← HNK.out.1] at h9
              have H9 := Lib.hid (h9.mono (Y := (· = g)) (fun i (e : i = g) => by have := HCD.out.f.lt; omega))
              have C9 := Lib.hid hc9
              have S9 := Lib.hid s9
              clear h9 hc9 s9
              go_wp2_with fail
              refine (lists_same w9 _ _ t _ _ (H9.out.mono (fun _ x => x.elim)) ((HV9.out.stay S9.out).mono (fun _ x => x.elim))).mono ?_
              rintro e w10 ⟨rfl, s10⟩
              have S10 := Lib.hid s10
              clear s10
              go_wp2_with fail
              refine (join_made (q := q) (C9.out.stay0 S10.out) ((H9.out.mono (Y := fun _ => False) (fun _ x => x.elim)).stay S10.out) (by have := HNK.out.1; omega) (by have := HL.out; omega)).mono ?_
              rintro e w11 ⟨vb, rfl, hb11, s11⟩
              have S11 := Lib.hid s11
              have HW11 := Lib.hid (show Stay (fun _ => False) w w11 from stay_seal (X := fun i => w.heap.size ≤ i) (((HWV.out.trans (S9.out.mono (fun i (e : i = g) => by have := HGG.out.1; omega))).trans (S10.out.mono (fun _ x => x.elim))).trans (s11.mono (fun _ x => x.elim))) (fun _ h => h))
              obtain ⟨ab, cb, e3, _⟩ := hb11.form
              rw [length_lf] at e3
              subst e3
              have y1 := conv_slc hb11.now
              have y2 := conv_slc (HX.out.stay HW11.out).now
              unfold strV at y1 y2
              generalize (⟨(lf lt q).toArray⟩ : ByteArray) = ba at y1 y2
              clear hb11 s11
              go_wp2_with fail
              clear y1 y2
              refine (sure_any w11).mono ?_
              rintro e w12 ⟨rfl, s12⟩
              have S12 := Lib.hid s12
              clear s12
              go_wp2
              try go_ret
              exact ⟨rfl, HW11.out.trans S12.out⟩
            · have q6 : (m : Int) < (cnt : Int) := by omega
              have HCM := Lib.hid hcm
              clear hcm
              go_wp2_with fail
              refine (decode_few (len := lenS lt k) HCD.out HX1.out HSB1.out (fun i _ hf => by simp [lenF, hf]) (by have := HSL.out; omega) (by rw [← HNK.out.1]; have := HCNT.out; have := HNK.out.1; have := HCM.out; omega)).mono ?_
              rintro e w9 ⟨rfl, _, s9⟩
              have S9 := Lib.hid s9
              have HW9 := Lib.hid (show Stay (fun _ => False) w w9 from stay_seal (X := fun i => w.heap.size ≤ i) (HWV.out.trans (s9.mono (fun i (e : i = g) => by have := HGG.out.1; omega))) (fun _ h => h))
              clear s9
              go_wp2_with fail
              refine (num_errno 20 w9 (HG.out.stay0 HW9.out)).mono ?_
              rintro e w10 ⟨rfl, s10⟩
              have S10 := Lib.hid s10
              clear s10
              go_wp2_with fail
              refine (sure_any w10).mono ?_
              rintro e w12 ⟨rfl, s12⟩
              have S12 := Lib.hid s12
              clear s12
              go_wp2
              try go_ret
              exact ⟨rfl, (HW9.out.trans S10.out).trans S12.out⟩
theorem lost_walk (w : World) (K M : Int) (x : Value) (l : List UInt8) (hx : Slc w x l) (al : Option Addr) (nl cl : Nat) (zs : Nat → Int) (hi : SI w (.slice al nl cl) nl zs) (hg : ErrCell w) :
    Calls Tryd.prog 4 #[sizeV K M, x, .slice al nl cl] w fun e w' => e = .returned (.bool true) ∧ Stay (fun _ => False) w w' := by
  have ho := Slc.own hx
  obtain ⟨a0, c0, rfl, _⟩ := hx
  by_cases h : 2000 < l.length
  · exact lost_long w K M _ _ _ _ h
  · exact lost_good w K M _ _ _ _ ho (by omega) _ _ _ zs hi hg
end Go.Proofs.YtaldpfamgfchoaaDoor.Rs
