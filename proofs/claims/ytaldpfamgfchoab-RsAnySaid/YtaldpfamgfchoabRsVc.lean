/-
  RsAny, walked: a text that is taken.
-/
import Derived.Test.YtaldpfamgfchoabRsVb
namespace Go.Proofs.Ytaldpfamgfchoab.Rs
open Go.RowKit Gf
set_option maxRecDepth 100000

/-- What stands: the rows that are picked, boxed; a block of two results. -/
def PK (w : World) (b : Nat) (pa : Nat → Option Addr) (pn pd : Nat → Nat) : Prop := ∀ j, j < 2 → w.cell? ⟨b, j, none⟩ = some (.slice (pa j) (pn j) (pd j))
theorem PK.new (w : World) (pa : Nat → Option Addr) (pn pd : Nat → Nat) : PK (w.alloc (.cells #[.slice (pa 0) (pn 0) (pd 0), .slice (pa 1) (pn 1) (pd 1)] 26)) w.heap.size pa pn pd := fun j hj => by
  rw [cell_of_row _ _ _ _ _ _ (heap_alloc_new w _)]
  match j, hj with
  | 0, _ => rfl
  | 1, _ => rfl
theorem PK.stay {w w' : World} {b : Nat} {pa : Nat → Option Addr} {pn pd : Nat → Nat} {X : Nat → Prop} (h : PK w b pa pn pd) (hs : Stay X w w') (hx : ¬ X b) : PK w' b pa pn pd := fun j hj => hs.cell (h j hj) hx
def MB (w : World) (g : Nat) (u : Nat → Value) : Prop := w.heap[g]? = some (.cells #[u 0, u 1] 38 (0, 0))
def putU (u : Nat → Value) (k : Nat) (v : Value) : Nat → Value := fun i => if i = k then v else u i
section
variable {w w' : World} {g : Nat} {u : Nat → Value} {X : Nat → Prop}
theorem MB.lt (h : MB w g u) : g < w.heap.size := (Array.getElem?_eq_some_iff.1 h).1
theorem MB.fr (h : MB w g u) (i : Nat) : w.frozen? ⟨g, i, none⟩ = false := frozen_of_row w g i _ _ h
theorem MB.c (h : MB w g u) {i : Nat} (hi : i < 2) : w.cell? ⟨g, i, none⟩ = some (u i) := by
  rw [cell_of_row w g i _ _ _ h]
  match i, hi with
  | 0, _ => rfl
  | 1, _ => rfl
theorem MB.stay (h : MB w g u) (hs : Stay X w w') (hx : ¬ X g) : MB w' g u := (hs.block g h.lt hx).trans h
theorem MB.set (h : MB w g u) {k : Nat} (hk : k < 2) (v : Value) : MB (w.setCell ⟨g, k, none⟩ v) g (putU u k v) := by
  unfold MB
  rw [heap_setCell_same w g k _ _ _ h]
  match k, hk with
  | 0, _ => rfl
  | 1, _ => rfl
theorem MB.new (w : World) (x y : Value) : MB (w.alloc (.cells #[x, y] 38)) w.heap.size (fun j => if j = 0 then x else y) := heap_alloc_new w _
end
/-- Of a part: it is there if its truth says so, or if there is none for it. -/
def flP (nb : Nat) (f : Nat → Bool) : Nat → Bool := fun i => decide (nb ≤ i) || f i
theorem flP_behind {nb : Nat} {f : Nat → Bool} {i : Nat} (h : nb ≤ i) : flP nb f i = true := by simp [flP, h]
theorem flP_in {nb : Nat} {f : Nat → Bool} {i : Nat} (h : i < nb) : flP nb f i = f i := by
  unfold flP
  rw [decide_eq_false (by omega)]
  rfl

set_option maxHeartbeats 4000000 in
theorem any_good (w : World) (K M : Int) (ta : Option Addr) (lt tc : Nat) (q : Nat → UInt8) (hx : SSlc (fun _ => False) w (.slice ta lt tc) (lf lt q)) (hl : lt ≤ 1000) (pa : Nat → Option Addr) (pn pd : Nat → Nat) (pf : Nat → Nat → Bool) (hf : ∀ j, j < 2 → SB (fun _ => False) w (.slice (pa j) (pn j) (pd j)) (pn j) (pf j)) :
    Calls Try.prog 3 #[sizeV K M, .slice ta lt tc, .agg #[.slice (pa 0) (pn 0) (pd 0), .slice (pa 1) (pn 1) (pd 1)]] w fun e w' => e = .returned (.bool true) ∧ Stay (fun _ => False) w w' := by
  unfold sizeV
  obtain ⟨kk, hkk, ek⟩ := mod_nat K 5 (by decide)
  obtain ⟨m, hm, em⟩ := mod_nat M 5 (by decide)
  have ek : (IntKind.u64.wrap K).tmod 5 = (kk : Int) := ek
  have em : (IntKind.u64.wrap M).tmod 5 = (m : Int) := em
  have EK := Lib.hid ek
  have EM := Lib.hid em
  clear ek em
  have ql : ¬ (1000 : Int) < (lt : Int) := by omega
  have ql2 : (lt : Int) ≤ 1000 := by omega
  have HL := Lib.hid hl
  have HX := Lib.hid hx
  have HF := Lib.hid hf
  clear hx hf hl
  go_enter Try.func3, Try.ntmps3
  go_wp2
  have hst : Stay (fun _ => False) w ((w.alloc (.cells #[.int .i64 K, .int .i64 M] 23)).alloc (.cells #[.slice (pa 0) (pn 0) (pd 0), .slice (pa 1) (pn 1) (pd 1)] 26)) := (Stay.alloc _ _).trans (Stay.alloc _ _)
  have hsz := (Sz.new w K M).stay0 (Stay.alloc (X := fun _ => False) _ (.cells #[.slice (pa 0) (pn 0) (pd 0), .slice (pa 1) (pn 1) (pd 1)] 26))
  have hpk := PK.new (w.alloc (.cells #[.int .i64 K, .int .i64 M] 23)) pa pn pd
  obtain ⟨gp, hgp⟩ : ∃ gp, gp = (w.alloc (.cells #[.int .i64 K, .int .i64 M] 23)).heap.size := ⟨_, rfl⟩
  have hgp2 : gp = w.heap.size + 1 := hgp.trans (World.size_alloc _ _)
  rw [← hgp] at hpk
  first | rw [← hgp2] | rw [← hgp] | skip
  generalize ((w.alloc (.cells #[.int .i64 K, .int .i64 M] 23)).alloc (.cells #[.slice (pa 0) (pn 0) (pd 0), .slice (pa 1) (pn 1) (pd 1)] 26)) = w0 at hst hsz hpk ⊢
  obtain ⟨k0, k1⟩ := hsz.stay0 (Stay.drew (X := fun _ => False))
  go_region_held3 (fun W => W.cell? ⟨w.heap.size, 0, none⟩ = some (.int .i64 K) ∧ W.cell? ⟨w.heap.size, 1, none⟩ = some (.int .i64 M)) (first | exact ⟨k0, k1⟩ | go_keep) (fail)
  rw [EK.out, EM.out, wrap_small (kk : Int) (by omega) (by omega), wrap_small (1 + (kk : Int)) (by omega) (by omega), wrap_small (m : Int) (by omega) (by omega)]
  obtain ⟨k, hk⟩ : ∃ k : Nat, k = 1 + kk := ⟨_, rfl⟩
  rw [show 1 + (kk : Int) = (k : Int) from by omega]
  have hst := hst.trans (Stay.drew (X := fun _ => False))
  have hpk := hpk.stay (Stay.drew (X := fun _ => False)) (fun x => x)
  generalize w0.drew = w1 at hst hpk ⊢
  have hgp1 : gp < w1.heap.size := World.block_lt_of_cell? w1 ⟨gp, 0, none⟩ (hpk 0 (by decide))
  have PK1 := Lib.hid hpk
  have HGP := Lib.hid (show w.heap.size ≤ gp from by omega)
  have S1 := Lib.hid hst
  have HK := Lib.hid (show 1 ≤ k ∧ k + m ≤ 32 from by omega)
  clear hst hk hkk hm k0 k1 hsz hgp hgp2 hpk
  go_wp2_with fail
  refine (new_good w1 k m HK.out.1 HK.out.2).mono ?_
  rintro e w2 ⟨c, rfl, _, hc2, s2⟩
  obtain ⟨g, hgg⟩ : ∃ g, g = w1.heap.size := ⟨_, rfl⟩
  rw [← hgg] at hc2
  have C2 := Lib.hid hc2
  have HGG := Lib.hid (show w.heap.size ≤ g ∧ gp < g from by have e1 := S1.out.size; omega)
  clear hc2 hgg hgp1
  have S2 := Lib.hid s2
  clear s2
  go_wp2_with fail
  refine (split_any w2 c g k m lt _ q C2.out (HX.out.stay (S1.out.trans S2.out)) (by have := HL.out; omega)).mono ?_
  rintro e w3 ⟨vp, rfl, hp, s3⟩
  have HP := Lib.hid (hp.mono (Y := (· = g)) (fun i (e : i = g) => by have := C2.out.f.lt; omega))
  have S3 := Lib.hid s3
  have C3 := Lib.hid (C2.out.stay0 s3)
  have HSL := Lib.hid (show lenS lt k ≤ 3000 from by
    have h1 := HK.out
    have h2 := HL.out
    unfold lenS
    exact Nat.le_trans (Nat.div_le_self _ _) (by omega))
  clear hp s3
  go_wp2_with fail
  refine (encode_good C3.out HP.out (evenB_true.2 (fun _ _ => rfl)) (by have := HSL.out; omega)).mono ?_
  rintro e w4 ⟨va, rfl, hv, hc4, s4⟩
  obtain ⟨N, hN⟩ : ∃ N, N = k + m := ⟨_, rfl⟩
  rw [← hN] at hv
  obtain ⟨aa, ca, rfl, _⟩ := hv.form
  have qN : (k : Int) + (m : Int) = (N : Int) := by omega
  have qNN : (N : Int) ≤ 32 := by have := HK.out; omega
  have HNK := Lib.hid (show N = k + m ∧ N ≤ 32 ∧ 0 < N from by have := HK.out; omega)
  have HV := Lib.hid (hv.mono (Y := (· = g)) (fun i (e : i = g) => by have := C3.out.f.lt; omega))
  have C4 := Lib.hid hc4
  have S4 := Lib.hid s4
  have HW4 := Lib.hid (show Stay (fun i => w.heap.size ≤ i) w w4 from (((S1.out.trans S2.out).trans S3.out).mono (fun _ x => x.elim)).trans (s4.mono (fun i (e : i = g) => by have := HGG.out.1; omega)))
  have PK4 := Lib.hid (((PK1.out.stay S2.out (fun x => x)).stay S3.out (fun x => x)).stay S4.out (fun e => by have := HGG.out.2; omega))
  clear hv hc4 s4 hN
  go_wp2_with fail
  obtain ⟨ma, hma⟩ : ∃ ma, ma = w4.heap.size := ⟨_, rfl⟩
  have hmb := MB.new w4 (.slice none 0 0) (.slice none 0 0)
  have hs5 : Stay (fun _ => False) w4 (w4.alloc (.cells #[.slice none 0 0, .slice none 0 0] 38)) := Stay.alloc _ _
  rw [← hma] at hmb ⊢
  generalize w4.alloc (.cells #[.slice none 0 0, .slice none 0 0] 38) = w5 at hmb hs5 ⊢
  have HMA := Lib.hid (show g < ma ∧ c < ma ∧ gp < ma ∧ w.heap.size ≤ ma from by have := C4.out.f.lt; have := C4.out.lt; have := HGG.out; omega)
  have HV5 := Lib.hid (HV.out.push (Y := fun i => i = g ∨ i = ma) (hs5.mono (fun _ x => x.elim)) (fun i h e => by rcases e with e | e <;> omega))
  have PK5 := Lib.hid (PK4.out.stay hs5 (fun x => x))
  have C5 := Lib.hid (C4.out.stay0 hs5)
  have HW5 := Lib.hid (HW4.out.trans (hs5.mono (Y := fun i => w.heap.size ≤ i) (fun _ x => x.elim)))
  have MB5 := Lib.hid hmb
  clear hmb hs5 hma
  go_loopw [14] (fun i wr => ∃ (n : Nat) (u : Nat → Value), n ≤ 2 ∧ i = .int .i64 (n : Int) ∧ MB wr ma u ∧ (∀ j, j < n → SM (fun i => i = g ∨ i = ma) wr (u j) N (fun _ => lenS lt k) (prodF k (rowF k) (splitF lt (lenS lt k) q))) ∧ Cd wr c g k m ∧ Stay (fun i => i = g ∨ i = ma) w5 wr) (fun i _ => 2 - (intOf i).toNat)
  case atStart => exact ⟨0, _, by omega, rfl, MB5.out, fun j hj => by omega, C5.out, Stay.refl _ _⟩
  case round =>
    obtain ⟨n, u, hn, rfl, hmb, hu, hcd, hst⟩ := hrel
    by_cases hlt : n < 2
    · have q1 : (n : Int) < 2 := by omega
      obtain ⟨wq, hwq⟩ : ∃ x, x = wr := ⟨_, rfl⟩
      rw [← hwq] at hmb hu hcd hst ⊢
      have HMB := Lib.hid hmb
      have HU := Lib.hid hu
      have HCD := Lib.hid hcd
      have HST := Lib.hid hst
      have HN := Lib.hid hlt
      have PKQ := Lib.hid (PK5.out.stay hst (fun e => by have := HGG.out; have := HMA.out; omega))
      clear hmb hu hcd hst hlt hwq
      go_wp2
      go_loopw [15, 16, 17] (fun vt vc vi wv => ∃ i cnt : Nat, i ≤ N ∧ vi = .int .i64 (i : Int) ∧ vc = .int .i64 (cnt : Int) ∧ cnt = (sel (flP (pn n) (pf n)) i).length ∧ OB wq.heap.size wv vt i (flP (pn n) (pf n)) ∧ Stay (fun _ => False) wq wv) (fun _ _ vi _ => N - (intOf vi).toNat)
      case atStart => exact ⟨0, 0, by omega, rfl, rfl, rfl, OB.nil _ _ _, Stay.refl _ _⟩
      case round =>
        obtain ⟨i, cnt, hi, rfl, rfl, hcn, hob, hs6⟩ := hrel
        by_cases hil : i < N
        · have q2 : (i : Int) < (N : Int) := by omega
          have q5 : (cnt : Int) ≤ 32 := by have := sel_le (flP (pn n) (pf n)) i; omega
          have hpk := (PKQ.out.stay hs6 (fun x => x)) n HN.out
          have HWR := Lib.hid (stay_seal ((HW5.out.trans (HST.out.mono (Y := fun i => w.heap.size ≤ i) (fun i e => by have := HGG.out.1; have := HMA.out; rcases e with e | e <;> omega))).trans (hs6.mono (fun _ x => x.elim))) (fun _ h => h))
          have HOB := Lib.hid hob
          have HLO := Lib.hid hob.lt
          have HS6 := Lib.hid hs6
          have HIL := Lib.hid hil
          have HCN := Lib.hid hcn
          clear hob hs6 hil hcn hi
          by_cases hb : i < pn n
          · have q3 : (i : Int) < (pn n : Int) := by omega
            obtain ⟨b, o, eb, hcell⟩ := (HF.out n HN.out).at hb
            have k1 := hcell _ HWR.out
            rw [eb] at hpk
            have HB := Lib.hid hb
            clear hb hcell
            cases hfv : pf n i with
            | true =>
              have HFV := Lib.hid ((flP_in HB.out).trans hfv)
              rw [hfv] at k1
              clear hfv
              go_wp2_with (first
                | (at_builtin
                   refine append_f1 (w := wr) rfl (.tmp 89) (.tmp 91) rfl rfl rfl HOB.out HFV.out.symm HS6.out.size (by have := HIL.out; have := HNK.out; omega) ?_
                   intro v7 w7 h7 s7
                   have H7 := Lib.hid h7
                   have S7 := Lib.hid (stay_grow HS6.out s7 (fun i e => (HLO.out i e).1))
                   clear h7 s7))
              have hi := HIL.out
              have hcn := HCN.out
              have hsl := sel_true (fl := flP (pn n) (pf n)) HFV.out
              first
                | exact ⟨⟨i + 1, cnt + 1, by omega, by go_num, by first | rfl | go_num, by omega, H7.out, S7.out⟩, by simp [intOf]; omega⟩
                | (go_round
                   case rel => exact ⟨i + 1, cnt + 1, by omega, by go_num, by first | rfl | go_num, by omega, H7.out, S7.out⟩
                   case measure => simp [intOf]; omega)
            | false =>
              have HFV := Lib.hid ((flP_in HB.out).trans hfv)
              rw [hfv] at k1
              have q8 : ¬ pn n ≤ i := by have := HB.out; omega
              clear hfv
              go_wp2_with (first
                | (at_builtin
                   refine append_f1 (w := wr) rfl (.tmp 89) (.tmp 91) rfl rfl rfl HOB.out (by first | exact HFV.out.symm | exact (decide_eq_false q8).trans HFV.out.symm) HS6.out.size (by have := HIL.out; have := HNK.out; omega) ?_
                   intro v7 w7 h7 s7
                   have H7 := Lib.hid h7
                   have S7 := Lib.hid (stay_grow HS6.out s7 (fun i e => (HLO.out i e).1))
                   clear h7 s7))
              have hi := HIL.out
              have hcn := HCN.out
              have hsl := sel_false (fl := flP (pn n) (pf n)) HFV.out
              first
                | exact ⟨⟨i + 1, cnt, by omega, by go_num, by first | rfl | go_num, by omega, H7.out, S7.out⟩, by simp [intOf]; omega⟩
                | (go_round
                   case rel => exact ⟨i + 1, cnt, by omega, by go_num, by first | rfl | go_num, by omega, H7.out, S7.out⟩
                   case measure => simp [intOf]; omega)
          · have q3 : ¬ (i : Int) < (pn n : Int) := by omega
            have q4 : (pn n : Int) ≤ (i : Int) := by omega
            have q7 : pn n ≤ i := by omega
            have HFV := Lib.hid (flP_behind (f := pf n) (show pn n ≤ i from by omega))
            clear hb
            go_wp2_with (first
              | (at_builtin
                 refine append_f1 (w := wr) rfl (.tmp 89) (.tmp 91) rfl rfl rfl HOB.out HFV.out.symm HS6.out.size (by have := HIL.out; have := HNK.out; omega) ?_
                 intro v7 w7 h7 s7
                 have H7 := Lib.hid h7
                 have S7 := Lib.hid (stay_grow HS6.out s7 (fun i e => (HLO.out i e).1))
                 clear h7 s7))
            have hi := HIL.out
            have hcn := HCN.out
            have hsl := sel_true (fl := flP (pn n) (pf n)) HFV.out
            first
              | exact ⟨⟨i + 1, cnt + 1, by omega, by go_num, by first | rfl | go_num, by omega, H7.out, S7.out⟩, by simp [intOf]; omega⟩
              | (go_round
                 case rel => exact ⟨i + 1, cnt + 1, by omega, by go_num, by first | rfl | go_num, by omega, H7.out, S7.out⟩
                 case measure => simp [intOf]; omega)
        · obtain rfl : N = i := by omega
          have HC1 := Lib.hid (HCD.out.stay0 hs6)
          have HX1 := Lib.hid (show SM (· = g) wr (.slice aa N ca) (k + m) (fun _ => lenS lt k) (prodF k (rowF k) (splitF lt (lenS lt k) q)) from by
            rw [← HNK.out.1]
            exact ((HV5.out.stay HST.out).stay (hs6.mono (fun _ x => x.elim))).mono (fun i e => .inl e))
          obtain ⟨at1, ct1, rfl, hct, _⟩ := (hob.sb (X := (· = g)) (fun j (e : j = g) => by have := HCD.out.f.lt; omega)).form
          have HSB1 := Lib.hid (show SB (· = g) wr (.slice at1 N ct1) (k + m) (flP (pn n) (pf n)) from by
            rw [← HNK.out.1]
            exact hob.sb (fun j (e : j = g) => by have := HCD.out.f.lt; omega))
          have HM1 := Lib.hid (HMB.out.stay hs6 (fun x => x))
          have HS6 := Lib.hid hs6
          have HCN := Lib.hid hcn
          clear hob hs6 hcn hct hil hi
          by_cases hkc : k ≤ cnt
          · have q6 : (k : Int) ≤ (cnt : Int) := by omega
            have HKC := Lib.hid hkc
            clear hkc
            go_wp2_with fail
            refine (decode_back (len := lenS lt k) HC1.out HX1.out HSB1.out (fun _ _ _ => rfl) (by have := HSL.out; omega) (by rw [← HNK.out.1, ← HCN.out]; exact HKC.out)).mono ?_
            rintro e w9 ⟨v9, rfl, h9, hc9, s9⟩
            rw [← HNK.out.1] at h9
            obtain ⟨a9, cc9, rfl, _⟩ := h9.form
            have hm9 := HM1.out.stay s9 (fun e => by have := HMA.out; omega)
            have c9 := hm9.c HN.out
            have f9 := hm9.fr n
            have H9 := Lib.hid (h9.mono (Y := fun i => i = g ∨ i = ma) (fun i e => by have := HC1.out.f.lt; have := HM1.out.lt; rcases e with e | e <;> omega))
            have C9 := Lib.hid hc9
            have S9 := Lib.hid s9
            have HM9 := Lib.hid hm9
            clear h9 hc9 s9 hm9
            go_wp2_with fail
            have hn := HN.out
            have hm := HM9.out.set hn (.slice a9 N cc9)
            have hx : Stay (fun i => i = g ∨ i = ma) w9 (w9.setCell ⟨ma, n, none⟩ (.slice a9 N cc9)) := Stay.setCell (X := fun i => i = g ∨ i = ma) w9 (⟨ma, n, none⟩ : Addr) (.slice a9 N cc9) (.inr rfl)
            have hu2 : ∀ j, j < n + 1 → SM (fun i => i = g ∨ i = ma) (w9.setCell ⟨ma, n, none⟩ (.slice a9 N cc9)) (putU u n (.slice a9 N cc9) j) N (fun _ => lenS lt k) (prodF k (rowF k) (splitF lt (lenS lt k) q)) := by
              intro j hj
              unfold putU
              by_cases e : j = n
              · rw [if_pos e]
                exact H9.out.stay hx
              · rw [if_neg e]
                exact (((HU.out j (by omega)).stay (HS6.out.mono (fun _ x => x.elim))).stay (S9.out.mono (fun _ e => .inl e))).stay hx
            have hcd2 := C9.out.stayb (Stay.setCell (X := (· = ma)) w9 (⟨ma, n, none⟩ : Addr) (.slice a9 N cc9) rfl) (fun e => by have := HMA.out; omega) (fun e => by have := HMA.out; omega)
            have hst2 := ((HST.out.trans (HS6.out.mono (fun _ x => x.elim))).trans (S9.out.mono (fun _ e => .inl e))).trans hx
            first
              | exact ⟨⟨n + 1, putU u n (.slice a9 N cc9), by omega, by go_num, hm, hu2, hcd2, hst2⟩, by simp [intOf]; omega⟩
              | (go_round
                 case rel => exact ⟨n + 1, putU u n (.slice a9 N cc9), by omega, by go_num, hm, hu2, hcd2, hst2⟩
                 case measure => simp [intOf]; omega)
          · have q6 : ¬ (k : Int) ≤ (cnt : Int) := by omega
            have HKC := Lib.hid hkc
            clear hkc
            go_wp2_with fail
            refine (decode_few (len := lenS lt k) HC1.out HX1.out HSB1.out (fun _ _ _ => rfl) (by have := HSL.out; omega) (by rw [← HNK.out.1, ← HCN.out]; have := HKC.out; omega)).mono ?_
            rintro e w9 ⟨rfl, _, s9⟩
            have HW9 := Lib.hid (show Stay (fun _ => False) w w9 from stay_seal (X := fun i => w.heap.size ≤ i) (((HW5.out.trans (HST.out.mono (Y := fun i => w.heap.size ≤ i) (fun i e => by have := HGG.out.1; have := HMA.out; rcases e with e | e <;> omega))).trans (HS6.out.mono (fun _ x => x.elim))).trans (s9.mono (fun i (e : i = g) => by have := HGG.out.1; omega))) (fun _ h => h))
            clear s9
            go_wp2_with fail
            refine (sure_any w9).mono ?_
            rintro e w12 ⟨rfl, s12⟩
            have S12 := Lib.hid s12
            clear s12
            go_wp2
            try go_ret
            exact ⟨rfl, HW9.out.trans S12.out⟩
    · obtain rfl : n = 2 := by omega
      have k0 := hmb.c (i := 0) (by decide)
      have k1 := hmb.c (i := 1) (by decide)
      have HW10 := Lib.hid (HW5.out.trans (hst.mono (Y := fun i => w.heap.size ≤ i) (fun i e => by have := HGG.out.1; have := HMA.out; rcases e with e | e <;> omega)))
      have HU0 := Lib.hid ((hu 0 (by decide)).mono (Y := fun _ => False) (fun _ x => x.elim))
      have HU1 := Lib.hid ((hu 1 (by decide)).mono (Y := fun _ => False) (fun _ x => x.elim))
      have HVR := Lib.hid ((HV5.out.stay hst).mono (Y := fun _ => False) (fun _ x => x.elim))
      have HMB := Lib.hid hmb
      clear hmb hu hcd hst hlt hn
      go_wp2_with fail
      refine (lists_same wr _ _ N _ _ HU0.out HU1.out).mono ?_
      rintro e w10 ⟨rfl, s10⟩
      have k2 := (HMB.out.stay s10 (fun x => x)).c (i := 0) (by decide)
      have S10 := Lib.hid s10
      clear s10 k0 k1
      go_wp2_with fail
      refine (lists_same w10 _ _ N _ _ (HU0.out.stay S10.out) (HVR.out.stay S10.out)).mono ?_
      rintro e w11 ⟨rfl, s11⟩
      have HW11 := Lib.hid (show Stay (fun _ => False) w w11 from stay_seal (X := fun i => w.heap.size ≤ i) ((HW10.out.trans (S10.out.mono (fun _ x => x.elim))).trans (s11.mono (fun _ x => x.elim))) (fun _ h => h))
      clear s11 k2
      go_wp2_with fail
      refine (sure_any w11).mono ?_
      rintro e w12 ⟨rfl, s12⟩
      have S12 := Lib.hid s12
      clear s12
      go_wp2
      try go_ret
      exact ⟨rfl, HW11.out.trans S12.out⟩
theorem any_walk (w : World) (K M : Int) (x : Value) (l : List UInt8) (hx : Slc w x l) (pa : Nat → Option Addr) (pn pd : Nat → Nat) (pf : Nat → Nat → Bool) (hf : ∀ j, j < 2 → SB (fun _ => False) w (.slice (pa j) (pn j) (pd j)) (pn j) (pf j)) :
    Calls Try.prog 3 #[sizeV K M, x, .agg #[.slice (pa 0) (pn 0) (pd 0), .slice (pa 1) (pn 1) (pd 1)]] w fun e w' => e = .returned (.bool true) ∧ Stay (fun _ => False) w w' := by
  have ho := Slc.own hx
  obtain ⟨a0, c0, rfl, _⟩ := hx
  by_cases h : 1000 < l.length
  · exact any_long w K M _ _ _ _ _ h
  · exact any_good w K M _ _ _ _ ho (by omega) pa pn pd pf hf
end Go.Proofs.Ytaldpfamgfchoab.Rs
