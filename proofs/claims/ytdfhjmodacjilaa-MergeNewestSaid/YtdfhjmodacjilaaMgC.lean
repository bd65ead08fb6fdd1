/-
  merge: the heap over a reader: up, Init.
-/
import Derived.Test.YtdfhjmodacjilaaMgB
namespace Go.Proofs.Ytdfhjmodacjilaa.Mg
open Go.RowKit Go.Maps Me
set_option maxRecDepth 100000
set_option linter.unusedVariables false

set_option maxHeartbeats 1000000 in
theorem up_any (A : Nat → Prop) (w : World) (r : Nat) (H : List Od) (j : Nat) (h : RdAt A w r H) (hj : j < H.length) (hb : H.length ≤ 1000000) (hu : Up H j) :
    Calls Try.prog 21 #[hv r, .int .i64 (j : Int)] w fun e w' => ∃ H', e = .returned (.tuple #[]) ∧ RdAt A w' r H' ∧ H'.Perm H ∧ HF H' 0 H'.length ∧ Stay A w w' := by
  have HU := Lib.hid hu
  have HR := Lib.hid h
  have hnb : (j : Int) ≤ 1000000 := by omega
  have HJ := Lib.hid hj
  have HB := Lib.hid hb
  clear hu h hb hj
  unfold hv
  go_enter Try.func21, Try.ntmps21
  go_wp2
  go_loopw [1] (fun t wr => ∃ (t0 : Nat) (H' : List Od), t = .int .i64 (t0 : Int) ∧ t0 ≤ j ∧ Hid (Up H' t0) ∧ Hid (RdAt A wr r H') ∧ Hid (H'.Perm H) ∧ Hid (Stay A w wr)) (fun t _ => (intOf t).toNat)
  case atStart => exact ⟨j, H, rfl, Nat.le_refl _, HU, HR, Lib.hid (List.Perm.refl _), Lib.hid (Stay.refl _ _)⟩
  case round =>
    obtain ⟨t, H', rfl, h1, HU', HR', HP', HS'⟩ := hrel
    have HL' := Lib.hid (show t < H'.length by have := HJ.out; rw [HP'.out.length_eq]; omega)
    by_cases ht : t = 0
    · subst ht
      have HDONE := Lib.hid HU'.out.top
      go_wp2
      refine bodyPost_end (results_none rfl _ _ _) rfl ⟨H', rfl, HR'.out, HP'.out, HDONE.out, HS'.out⟩
    · obtain ⟨q, eq⟩ : ∃ q, q = (t - 1) / 2 := ⟨_, rfl⟩
      have hqI : ((t : Int) - 1).tdiv 2 = (q : Int) := by
        rw [Int.tdiv_eq_ediv_of_nonneg (by omega)]
        omega
      have hqw : wrap64 (q : Int) = (q : Int) := by unfold wrap64; omega
      have EQ := Lib.hid eq
      have hne : ¬ q = t := by omega
      have hnI : ¬ (q : Int) = (t : Int) := by omega
      have ht0 : 0 < t := by omega
      clear eq ht
      obtain ⟨x, hx⟩ : ∃ x, H'[q]? = some x := ⟨_, List.getElem?_eq_getElem (by have := HL'.out; have := EQ.out; omega)⟩
      obtain ⟨y, hy⟩ : ∃ y, H'[t]? = some y := ⟨_, List.getElem?_eq_getElem HL'.out⟩
      have HX := Lib.hid hx
      have HY := Lib.hid hy
      clear hx hy
      obtain ⟨g, c, hr, hP, hA, _, _⟩ := HR'.out.row (by have := HL'.out; omega)
      have hm := meth_less _ _ _ hr
      have HPo := Lib.hid hP
      clear hP
      cases hlx : lessO y x with
      | true =>
        have HLX := Lib.hid hlx
        have HSTEP := Lib.hid (show Up (swapL H' q t) q by
          have := HU'.out.step ht0 (by rw [← EQ.out]; exact HX.out) HY.out HLX.out
          rwa [← EQ.out] at this)
        go_wp2_with fail
        refine (rd_less HR'.out HPo.out HY.out HX.out).mono ?_
        rintro e w2 ⟨rfl, hs2⟩
        rw [hlx]
        have hr2 := (hs2.block _ HR'.out.lt (fun x => x)).trans hr
        have HR2 := Lib.hid (HR'.out.stay0 hs2)
        have HP2 := Lib.hid (HPo.out.stay0 hs2)
        have hm2 := meth_swap _ _ _ hr2
        have HS2 := Lib.hid hs2
        clear hm hs2 hlx hr
        go_wp2_with fail
        refine (rd_swap rfl HR2.out hr2 HP2.out hA (by have := HL'.out; have := EQ.out; omega) HL'.out).mono ?_
        rintro e w3 ⟨rfl, hR3, hr3, hs3⟩
        have HR3 := Lib.hid hR3
        have HS3 := Lib.hid hs3
        clear hm2 hr2 hr3 hR3 hs3
        go_wp2
        refine ⟨⟨q, swapL H' q t, rfl, by have := EQ.out; omega, HSTEP, HR3, Lib.hid ((swap_perm _ _ _).trans HP'.out), Lib.hid ((HS'.out.trans (HS2.out.mono (fun _ x => x.elim))).trans HS3.out)⟩, ?_⟩
        simp [intOf]; have := EQ.out; omega
      | false =>
        have HLX := Lib.hid hlx
        have HDONE := Lib.hid (HU'.out.done (by rw [← EQ.out]; exact HX.out) HY.out HLX.out)
        go_wp2_with fail
        refine (rd_less HR'.out HPo.out HY.out HX.out).mono ?_
        rintro e w2 ⟨rfl, hs2⟩
        rw [hlx]
        have HR2 := Lib.hid (HR'.out.stay0 hs2)
        have HS2 := Lib.hid hs2
        clear hm hs2 hlx hr
        go_wp2
        refine bodyPost_end (results_none rfl _ _ _) rfl ⟨H', rfl, HR2.out, HP'.out, HDONE.out, HS'.out.trans (HS2.out.mono (fun _ x => x.elim))⟩

set_option maxHeartbeats 1000000 in
theorem init_any (A : Nat → Prop) (w : World) (r : Nat) (H : List Od) (h : RdAt A w r H) (hb : H.length ≤ 1000000) :
    Calls Try.prog 16 #[hv r] w fun e w' => ∃ H', e = .returned (.tuple #[]) ∧ RdAt A w' r H' ∧ H'.Perm H ∧ HF H' 0 H'.length ∧ Stay A w w' := by
  have HR := Lib.hid h
  have hnb : (H.length : Int) ≤ 1000000 := by omega
  have HB := Lib.hid hb
  obtain ⟨v, hr, hP, _⟩ := h.ex
  have hm := meth_len _ _ _ hr
  have HP := Lib.hid hP
  clear h hb hP hr
  obtain ⟨n, hn⟩ : ∃ n, n = H.length := ⟨_, rfl⟩
  have HN := Lib.hid hn
  obtain ⟨q, eq⟩ : ∃ q, q = n / 2 := ⟨_, rfl⟩
  have hqI : (n : Int).tdiv 2 = (q : Int) := by rw [Int.tdiv_eq_ediv_of_nonneg (by omega)]; omega
  have hqw : wrap64 (q : Int) = (q : Int) := by unfold wrap64; omega
  have hqb : (q : Int) ≤ 1000000 := by omega
  have EQ := Lib.hid eq
  have hlen := len_any w v H HP.out
  rw [← hn] at hlen hnb
  clear eq hn
  unfold hv
  go_enter Try.func16, Try.ntmps16
  go_wp2_with fail
  refine hlen.mono ?_
  rintro e w' ⟨rfl, hw⟩
  rw [hw]
  clear hm hlen hw
  have HF0 := Lib.hid (show HF H q n from fun j a b h0 h1 h2 ha hb => by have := EQ.out; omega)
  have HPR := Lib.hid (List.Perm.refl H)
  have HST := Lib.hid (Stay.refl A w)
  go_wp2
  go_loopw [3] (fun t wr => ∃ (d : Nat) (H' : List Od), d ≤ q ∧ ((∃ k : Nat, d = k + 1 ∧ t = .int .i64 (k : Int)) ∨ (d = 0 ∧ t = .int .i64 (-1))) ∧ Hid (HF H' d n) ∧ Hid (RdAt A wr r H') ∧ Hid (H'.Perm H) ∧ Hid (Stay A w wr)) (fun t _ => (intOf t + 1).toNat)
  case atStart =>
    refine ⟨q, H, Nat.le_refl _, ?_, HF0, HR, HPR, HST⟩
    by_cases h0 : q = 0
    · subst h0; exact .inr ⟨rfl, rfl⟩
    · exact .inl ⟨q - 1, by omega, congrArg (Value.int .i64) (by omega)⟩
  case round =>
    obtain ⟨d, H', hd, hk, HF', HR', HP', HS'⟩ := hrel
    rcases hk with ⟨k, rfl, rfl⟩ | ⟨rfl, rfl⟩
    · have hkb : (k : Int) ≤ 1000000 := by omega
      have HL' := Lib.hid (show H'.length = n by rw [HP'.out.length_eq]; exact HN.out.symm)
      go_wp2_with fail
      refine (down_any A _ r H' k n HR'.out (by rw [HL'.out]; exact Nat.le_refl _) (by rw [HP'.out.length_eq]; exact HB.out) (by have := EQ.out; omega) HF'.out).mono ?_
      rintro e w1 ⟨b, H1, rfl, hR1, hP1, _, hF1, hS1⟩
      have HR1 := Lib.hid hR1
      have HP1 := Lib.hid hP1
      have HF1 := Lib.hid hF1
      have HS1 := Lib.hid hS1
      clear hR1 hP1 hF1 hS1
      go_wp2
      refine ⟨⟨k, H1, by omega, (?_ : (∃ k1 : Nat, k = k1 + 1 ∧ _) ∨ (k = 0 ∧ _)), HF1, HR1, Lib.hid (HP1.out.trans HP'.out), Lib.hid (HS'.out.trans HS1.out)⟩, ?_⟩
      · by_cases h0 : k = 0
        · subst h0; exact .inr ⟨rfl, rfl⟩
        · exact .inl ⟨k - 1, by omega, congrArg (Value.int .i64) (by omega)⟩
      · simp [intOf]
    · have HF2 := Lib.hid (show HF H' 0 H'.length by rw [HP'.out.length_eq, ← HN.out]; exact HF'.out)
      go_wp2
      refine bodyPost_end (results_none rfl _ _ _) rfl ⟨H', rfl, HR'.out, HP'.out, HF2.out, HS'.out⟩
end Go.Proofs.Ytdfhjmodacjilaa.Mg
