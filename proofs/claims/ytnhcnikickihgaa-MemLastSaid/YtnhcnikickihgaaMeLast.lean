/-
  mem's laws: MemLast, walked.
-/
import Derived.Test.YtnhcnikickihgaaMeM
namespace Go.Proofs.Ytnhcnikickihgaa.Me
open Go.RowKit Go.Maps
set_option maxRecDepth 100000
set_option linter.unusedVariables false

/-- What a key has is what was put last. -/
theorem get_puts {L : List En} {la : Nat} {e : En} (he : L[la]? = some e) : ∀ n, la < n → n ≤ L.length → (∀ t, la < t → t < n → ∀ q, L[t]? = some q → q.k ≠ e.k) → getL (putsL L n) e.k = some (norm e)
  | 0, h, _, _ => by omega
  | n + 1, h, hn, hl => by
    by_cases h1 : la = n
    · subst h1
      rw [putsL_succ he, get_put (putsL_sorted L la), if_pos rfl]
    · obtain ⟨q, hq⟩ : ∃ q, L[n]? = some q := ⟨_, List.getElem?_eq_getElem (by omega)⟩
      rw [putsL_succ hq, get_put (putsL_sorted L n), if_neg (hl n (by omega) (by omega) q hq)]
      exact get_puts he n (by omega) (by omega) (fun t h2 h3 => hl t h2 (by omega))

/-- The last one, of those up to k, that has the key of the i-th. -/
structure LastOf (L : List En) (i k la : Nat) : Prop where
  lo : i ≤ la
  hi : la < max k (i + 1)
  key : ∀ q x, L[i]? = some q → L[la]? = some x → x.k = q.k
  no : ∀ t, la < t → t < k → ∀ q x, L[i]? = some q → L[t]? = some x → x.k ≠ q.k
theorem LastOf.start (L : List En) (i : Nat) : LastOf L i i i := ⟨Nat.le_refl _, by omega, fun q x h1 h2 => by rw [h1] at h2; cases h2; rfl, fun t h1 h2 => by omega⟩
theorem LastOf.yes {L : List En} {i k la : Nat} (h : LastOf L i k la) (hk : i ≤ k) {q x : En} (hq : L[i]? = some q) (hx : L[k]? = some x) (he : x.k = q.k) : LastOf L i (k + 1) k :=
  ⟨hk, by omega, fun q' x' h1 h2 => by rw [hq] at h1; rw [hx] at h2; cases h1; cases h2; exact he, fun t h1 h2 => by omega⟩
theorem LastOf.not {L : List En} {i k la : Nat} (h : LastOf L i k la) (hk : i ≤ k) {q x : En} (hq : L[i]? = some q) (hx : L[k]? = some x) (he : x.k ≠ q.k) : LastOf L i (k + 1) la := by
  refine ⟨h.lo, ?_, h.key, fun t h1 h2 q' x' h3 h4 => ?_⟩
  · have := h.hi; omega
  · by_cases ht : t = k
    · subst ht
      rw [hq] at h3
      rw [hx] at h4
      cases h3
      cases h4
      exact he
    · exact h.no t h1 (by omega) q' x' h3 h4

theorem EnO.at_key {base : Nat} {w : World} {vb : Option Addr} {n c : Nat} {L : List En} {t : Nat} {q : En} (h : EnO base w (.slice vb n c) L) (hq : L[t]? = some q) :
    ∃ g, vb = some ⟨g, 0, none⟩ ∧ w.cell? ⟨g, t * 3, none⟩ = some (strV q.k) ∧ w.frozen? ⟨g, t * 3, none⟩ = false := by
  have ht := (List.getElem?_eq_some_iff.1 hq).1
  obtain ⟨g', o', e0, _, hc⟩ := h.ens.at (by omega)
  rcases h.2 with ⟨e, hn⟩ | ⟨g, cap, cur, e, _, hg, _⟩
  · omega
  · cases e
    cases e0
    have := (hc t q hq).1
    rw [Nat.zero_add] at this
    exact ⟨_, rfl, this, frozen_of_row w _ _ _ _ hg⟩
theorem EnO.set_key {base : Nat} {w : World} {g n c : Nat} {L : List En} {t : Nat} {q : En} (h : EnO base w (.slice (some ⟨g, 0, none⟩) n c) L) (hq : L[t]? = some q) (k : List UInt8) :
    EnO base (w.setCell ⟨g, t * 3, none⟩ (strV k)) (.slice (some ⟨g, 0, none⟩) n c) (L.set t ⟨k, q.v, q.g⟩) := by
  have ht := (List.getElem?_eq_some_iff.1 hq).1
  have hr : enRows (L.set t ⟨k, q.v, q.g⟩) = (enRows L).set (t * 3) (strV k) := by
    apply List.ext_getElem?
    intro i
    by_cases hi : i < L.length * 3
    · have hlt : i / 3 < L.length := by omega
      obtain ⟨e, he⟩ : ∃ e, L[i / 3]? = some e := ⟨_, List.getElem?_eq_getElem hlt⟩
      have h1 := enRows_get (e := e) (j := i % 3) (by omega) L (i / 3) he
      rw [show i / 3 * 3 + i % 3 = i by omega] at h1
      rw [List.getElem?_set]
      by_cases hit : i / 3 = t
      · have he2 : e = q := by rw [hit, hq] at he; exact (Option.some.inj he).symm
        have h2 := enRows_get (e := ⟨k, q.v, q.g⟩) (j := i % 3) (by omega) (L.set t ⟨k, q.v, q.g⟩) (i / 3) (by rw [List.getElem?_set, if_pos hit.symm, if_pos (by omega)])
        rw [show i / 3 * 3 + i % 3 = i by omega] at h2
        rw [h2, h1, he2]
        by_cases h0 : i % 3 = 0
        · rw [if_pos (by omega), if_pos (by rw [length_enRows]; omega), h0]
          rfl
        · rw [if_neg (by omega)]
          have : i % 3 = 1 ∨ i % 3 = 2 := by omega
          rcases this with h3 | h3 <;> rw [h3] <;> rfl
      · have h2 := enRows_get (e := e) (j := i % 3) (by omega) (L.set t ⟨k, q.v, q.g⟩) (i / 3) (by rw [List.getElem?_set, if_neg (fun h => hit h.symm)]; exact he)
        rw [show i / 3 * 3 + i % 3 = i by omega] at h2
        rw [h2, if_neg (by omega), h1]
    · rw [List.getElem?_eq_none (by rw [length_enRows, List.length_set]; omega), List.getElem?_eq_none (by rw [List.length_set, length_enRows]; omega)]
  refine ⟨by rw [length_enRows], ?_⟩
  rcases h.2 with ⟨e, _⟩ | ⟨g', cap, cur, e, hb, hg, h1, h2, h3, h4⟩
  · cases e
  · cases e
    refine .inr ⟨g, c, cur.setIfInBounds (t * 3) (strV k), by rw [List.length_set], hb, heap_setCell_same w g _ _ _ _ hg, by rw [List.length_set]; exact h1, h2, by simpa using h3, ?_⟩
    rw [hr, ← h4, List.length_set, Array.toList_setIfInBounds, List.take_set]

set_option maxHeartbeats 8000000 in
theorem last_walk (w : World) (x : Value) (L : List En) (hx : EnS w x L) :
    Calls Try.prog 4 #[x] w fun e w' => e = .returned (.bool true) ∧ Stay (fun _ => False) w w' := by
  have HX := Lib.hid hx
  obtain ⟨a0, c, rfl, hnc, hcm, _⟩ := hx
  go_enter Try.func4, Try.ntmps4
  go_wp2_with fail
  refine (new_since w w (Stay.refl _ _)).mono ?_
  rintro e w1 ⟨rfl, h1⟩
  have H1 := Lib.hid h1
  clear h1
  generalize w.heap.size = p at *
  by_cases hle : L.length ≤ 60
  · have hN : L.length ≤ L.length := by omega
    have hN60 : L.length ≤ 60 := by omega
    go_wp2
    go_loopw [5] (fun i wr => ∃ j : Nat, i = .int .i64 (j : Int) ∧ j ≤ L.length ∧ Since w wr p (putsL L j)) (fun i _ => L.length - (intOf i).toNat)
    case atStart => exact ⟨0, rfl, Nat.zero_le _, H1.out⟩
    case round =>
      obtain ⟨j, rfl, hj, ht⟩ := hrel
      have HT := Lib.hid ht
      have HM := Lib.hid (show (putsL L j).length ≤ 1000 by have := putsL_len L j; omega)
      clear ht
      by_cases hlt : j < L.length
      · obtain ⟨q, hq⟩ : ∃ q, L[j]? = some q := ⟨_, List.getElem?_eq_getElem (by omega)⟩
        obtain ⟨g, o, rfl⟩ := HX.out.ptr hq
        have kl := Lib.hid ((HX.out.stay0 HT.out.2).load hq)
        have HP := Lib.hid (putsL_succ hq)
        clear hq
        go_wp2_with (first
          | ((with_reducible refine at_op (.load 27 (.tmp 29)) rfl ?_); refine wpList_load_run (by rfl) 27 (.tmp 29) rfl ⟨g, o + j * 3, none⟩ rfl _ kl.out ?_))
        refine (put_since q HT.out HM.out).mono ?_
        rintro y w2 ⟨rfl, h2⟩
        rw [← HP.out] at h2
        have H2 := Lib.hid h2
        clear h2
        go_wp2
        refine ⟨⟨j + 1, by go_num, hlt, H2.out⟩, by simp [intOf]; omega⟩
      · obtain rfl : L.length = j := by omega
        obtain ⟨M, hM⟩ : ∃ M, M = putsL L L.length := ⟨_, rfl⟩
        rw [← hM] at HT HM
        have HMM := Lib.hid hM
        clear hM
        obtain ⟨wo, rfl⟩ : ∃ wo, wo = wr := ⟨_, rfl⟩
        go_wp2
        go_loopw [6] (fun i wr => ∃ j : Nat, i = .int .i64 (j : Int) ∧ j ≤ L.length ∧ Since w wr p M) (fun i _ => L.length - (intOf i).toNat)
        case atStart => exact ⟨0, rfl, Nat.zero_le _, HT.out⟩
        case round =>
          obtain ⟨j, rfl, hj, ht⟩ := hrel
          have HT2 := Lib.hid ht
          clear ht
          by_cases hlt : j < L.length
          · obtain ⟨q, hq⟩ : ∃ q, L[j]? = some q := ⟨_, List.getElem?_eq_getElem (by omega)⟩
            obtain ⟨g, o, rfl⟩ := HX.out.ptr hq
            have HQ := Lib.hid hq
            clear hq
            obtain ⟨wz, rfl⟩ : ∃ wz, wz = wr := ⟨_, rfl⟩
            go_wp2
            go_loopw [7, 8] (fun la i wr => ∃ (a k : Nat), la = .int .i64 (a : Int) ∧ i = .int .i64 (k : Int) ∧ j ≤ k ∧ k ≤ L.length ∧ Hid (LastOf L j k a) ∧ Stay (fun _ => False) wz wr) (fun _ i _ => L.length - (intOf i).toNat)
            case atStart => exact ⟨j, j, rfl, rfl, Nat.le_refl _, hj, Lib.hid (LastOf.start L j), Stay.refl _ _⟩
            case round =>
              obtain ⟨a, k, rfl, rfl, hjk, hkn, hla, hst⟩ := hrel
              have HTI := Lib.hid hst
              have HXI := Lib.hid (HX.out.stay0 (HT2.out.2.trans hst))
              clear hst
              by_cases hlt2 : k < L.length
              · obtain ⟨r, hr⟩ : ∃ r, L[k]? = some r := ⟨_, List.getElem?_eq_getElem (by omega)⟩
                obtain ⟨g9, o9, e9, _, hc9⟩ := HXI.out.at (by omega)
                cases e9
                have cj := (hc9 _ q HQ.out).1
                have ck := (hc9 _ r hr).1
                clear hc9
                by_cases hk : r.k = q.k
                · have HN := Lib.hid (hla.out.yes hjk HQ.out hr hk)
                  rw [hk] at ck
                  clear hr
                  go_wp2
                  go_quiet (fail)
                  have HT3 := Lib.hid (HTI.out.trans (stay_drewN (X := fun _ => False) wr nq))
                  clear cj ck
                  go_wp2
                  refine ⟨⟨k, k + 1, rfl, by go_num, by omega, hlt2, HN, HT3.out⟩, by simp [intOf]; omega⟩
                · have HN := Lib.hid (hla.out.not hjk HQ.out hr hk)
                  have hkb : (r.k == q.k) = false := by simpa using hk
                  clear hr
                  go_wp2
                  go_quiet (fail)
                  have HT3 := Lib.hid (HTI.out.trans (stay_drewN (X := fun _ => False) wr nq))
                  clear cj ck
                  go_wp2
                  refine ⟨⟨a, k + 1, rfl, by go_num, by omega, hlt2, HN, HT3.out⟩, by simp [intOf]; omega⟩
              · obtain rfl : L.length = k := by omega
                have hahi := hla.out.hi
                have halo := hla.out.lo
                have hal : a < L.length := by omega
                obtain ⟨e, he⟩ : ∃ e, L[a]? = some e := ⟨_, List.getElem?_eq_getElem (by omega)⟩
                have hkey := hla.out.key q e HQ.out he
                have HG := Lib.hid (show getL M q.k = some (norm e) by rw [HMM.out, ← hkey]; exact get_puts he _ hal hN (fun t h2 h3 y hy => by rw [hkey]; exact hla.out.no t h2 h3 q y HQ.out hy))
                obtain ⟨g9, o9, e9, _, hc9⟩ := HXI.out.at (by omega)
                cases e9
                have cj := (hc9 _ q HQ.out).1
                obtain ⟨_, ca1, ca2⟩ := hc9 _ e he
                have CJ := Lib.hid cj
                have CA1 := Lib.hid ca1
                have CA2 := Lib.hid ca2
                have HK := Lib.hid hkey
                have HT3 := Lib.hid (HT2.out.stay0 HTI.out)
                clear hc9 ca1 ca2 hkey he
                go_wp2_with fail
                refine (get_any wr _ M q.k HT3.out.1.mr HT3.out.1.srt (by have := HM.out; omega)).mono ?_
                rintro y v1 ⟨rfl, s1⟩
                rw [HG.out]
                simp only [entOf, Option.isSome_some]
                have HT4 := Lib.hid (HT3.out.stay0 s1)
                have HS4 := Lib.hid s1
                clear s1
                have HBX := Lib.hid (Box.new v1 ⟨[], [], false⟩)
                have HA := Lib.hid (show Stay (fun _ => False) v1 (v1.alloc (.cells (enC ⟨[], [], false⟩).toArray 27)) from Stay.alloc _ _)
                obtain ⟨v2, hv2⟩ : ∃ v2, v1.alloc (.cells (enC ⟨[], [], false⟩).toArray 27) = v2 := ⟨_, rfl⟩
                rw [hv2] at HBX HA
                have V2 := Lib.hid hv2
                clear hv2
                go_wp2_with (first
                  | (with_reducible refine alloc_en rfl rfl ?_; rw [V2.out])
                  | ((with_reducible refine at_op (.store 27 (.tmp 9) (.tmp 64)) rfl ?_); refine Box.store HBX.out rfl (.tmp 9) (.tmp 64) rfl rfl (norm e) rfl ?_
                     intro v3 hb3 hs3
                     have HB3 := Lib.hid hb3
                     have HS3 := Lib.hid (show Stay (fun _ => False) v1 v3 from stay_seal ((HA.out.mono (fun _ x => x.elim)).trans hs3) (fun k hk => by have hk' : k = v1.heap.size := hk; omega))
                     clear hb3 hs3))
                have HT5 := Lib.hid (HT4.out.stay0 HS3.out)
                have hs35 := HS4.out.trans HS3.out
                have dj := hs35.cell CJ.out (fun x => x)
                have da1 := hs35.cell CA1.out (fun x => x)
                have da2 := hs35.cell CA2.out (fun x => x)
                have b0 := HB3.out.c (j := 0) rfl
                have b1 := HB3.out.c (j := 1) rfl
                have b2 := HB3.out.c (j := 2) rfl
                rw [norm_k, HK.out] at b0
                rw [norm_v] at b1
                rw [norm_g] at b2
                clear hs35 HBX HA V2
                cases hg : e.g with
                | false =>
                  rw [hg] at b1 b2 da2
                  simp only [Bool.false_eq_true, if_false] at b1
                  go_quiet (fail)
                  have HT6 := Lib.hid (HT5.out.stay0 (stay_drewN (X := fun _ => False) v3 nq))
                  clear b0 b1 b2 dj da1 da2
                  go_wp2
                  refine ⟨⟨j + 1, by go_num, hlt, HT6.out⟩, by simp [intOf]; omega⟩
                | true =>
                  rw [hg] at b1 b2 da2
                  simp only [if_true] at b1
                  go_quiet (fail)
                  have HT6 := Lib.hid (HT5.out.stay0 (stay_drewN (X := fun _ => False) v3 nq))
                  clear b0 b1 b2 dj da1 da2
                  go_wp2
                  refine ⟨⟨j + 1, by go_num, hlt, HT6.out⟩, by simp [intOf]; omega⟩
          · obtain rfl : L.length = j := by omega
            obtain ⟨wc, rfl⟩ : ∃ wc, wc = wr := ⟨_, rfl⟩
            have HMs := Lib.hid HT2.out.1.srt
            have HT3 := Lib.hid (HT2.out.1.mono (B' := fun k => k < wc.heap.size) (fun k hk _ => hk))
            have HW3 := Lib.hid HT2.out.2
            go_wp2_with fail
            refine (entries_any wc _ M HT2.out.1.mr HMs.out (by have := HM.out; omega)).mono ?_
            rintro y v1 ⟨va, rfl, oa, s1⟩
            have HE := Lib.hid oa
            have HT4 := Lib.hid (HT3.out.stay0 s1)
            have HW4 := Lib.hid (HW3.out.trans s1)
            have HZ4 := Lib.hid s1.size
            obtain ⟨vb, vc, rfl⟩ := oa.form
            have hml : (M.length : Int) ≤ 1000 := by have := HM.out; omega
            clear oa s1 HT2 HT3
            go_wp2
            go_loopw [12] (fun i wr => ∃ j : Nat, i = .int .i64 (j : Int) ∧ 1 ≤ j ∧ (j ≤ M.length ∨ j = 1) ∧ Stay (fun _ => False) v1 wr) (fun i _ => M.length - (intOf i).toNat)
            case atStart => exact ⟨1, rfl, Nat.le_refl _, .inr rfl, Stay.refl _ _⟩
            case round =>
              obtain ⟨j, rfl, hj1, hj, hst⟩ := hrel
              have HTI := Lib.hid hst
              have HEI := Lib.hid (HE.out.ens.stay0 hst)
              clear hst
              by_cases hlt : j < M.length
              · obtain ⟨q, hq⟩ : ∃ q, M[j]? = some q := ⟨_, List.getElem?_eq_getElem (by omega)⟩
                obtain ⟨r, hr⟩ : ∃ r, M[j - 1]? = some r := ⟨_, List.getElem?_eq_getElem (by omega)⟩
                obtain ⟨g9, o9, rfl, _, hc9⟩ := HEI.out.at (by omega)
                have cj := (hc9 _ q hq).1
                have ck := (hc9 _ r hr).1
                have hle2 := less_eq r.k q.k
                rw [sorted_at HMs.out (show j - 1 < j by omega) hr hq] at hle2
                obtain ⟨i1, rfl⟩ : ∃ i1, j = i1 + 1 := ⟨j - 1, by omega⟩
                rw [show i1 + 1 - 1 = i1 by omega] at ck
                clear hc9 hq hr
                go_wp2
                go_quiet (fail)
                have HT5 := Lib.hid (HTI.out.trans (stay_drewN (X := fun _ => False) wr nq))
                clear cj ck
                go_wp2
                refine ⟨⟨i1 + 2, by go_num, by omega, .inl (by omega), HT5.out⟩, by simp [intOf]; omega⟩
              · go_wp2_with fail
                refine (own_any wr _ M HEI.out (by have := HM.out; omega)).mono ?_
                rintro y u1 ⟨vk, rfl, ok, sk⟩
                have HK := Lib.hid ok
                have HS5 := Lib.hid (HTI.out.trans sk)
                have HE5 := Lib.hid (HE.out.stay0 HS5.out)
                have HT5 := Lib.hid (HT4.out.stay0 HS5.out)
                have HW5 := Lib.hid (HW4.out.trans HS5.out)
                have HB5 := Lib.hid (show ∀ k, (Value.slice vb M.length vc).ownBlock = some k → wc.heap.size ≤ k ∧ k < wr.heap.size from fun k hk => ⟨(HE.out.lt k hk).1, Nat.lt_of_lt_of_le (HE.out.lt k hk).2 HTI.out.size⟩)
                obtain ⟨vka, vkc, rfl⟩ := ok.form
                clear ok sk HE HT4 HW4 HEI
                obtain ⟨wk, rfl⟩ : ∃ wk, wk = wr := ⟨_, rfl⟩
                go_wp2
                go_loopw [14] (fun i wr => ∃ j : Nat, i = .int .i64 (j : Int) ∧ j ≤ M.length ∧ Stay (fun k => (Value.slice vb M.length vc).ownBlock = some k) u1 wr ∧ ∃ L' : List En, L'.length = M.length ∧ EnO wc.heap.size wr (.slice vb M.length vc) L') (fun i _ => M.length - (intOf i).toNat)
                case atStart => exact ⟨0, rfl, Nat.zero_le _, Stay.refl _ _, M, rfl, HE5.out⟩
                case round =>
                  obtain ⟨t, rfl, htl, hst, L', hL', ho⟩ := hrel
                  have HTI2 := Lib.hid hst
                  have HO := Lib.hid ho
                  clear hst
                  by_cases hlt3 : t < M.length
                  · obtain ⟨q, hq⟩ : ∃ q, L'[t]? = some q := ⟨_, List.getElem?_eq_getElem (by omega)⟩
                    obtain ⟨g9, rfl, ct, ft⟩ := ho.at_key hq
                    have HN := Lib.hid (ho.set_key hq [115, 112, 111, 105, 108, 116])
                    have HNl := Lib.hid (show (L'.set t ⟨[115, 112, 111, 105, 108, 116], q.v, q.g⟩).length = M.length by rw [List.length_set]; exact hL')
                    have HNs := Lib.hid (HTI2.out.trans (Stay.setCell (X := fun k => (Value.slice (some ⟨g9, 0, none⟩) M.length vc).ownBlock = some k) wr ⟨g9, t * 3, none⟩ (strV [115, 112, 111, 105, 108, 116]) rfl))
                    clear ho hq
                    go_wp2
                    refine ⟨⟨t + 1, by go_num, hlt3, HNs.out, _, HNl.out, HN.out⟩, by simp [intOf]; omega⟩
                  · have HT6 := Lib.hid (HT5.out.stay HTI2.out (fun k (hk : k < wc.heap.size) h => by have := (HB5.out k h).1; omega))
                    have HK6 := Lib.hid (HK.out.stay HTI2.out (fun k hk h => by have h1 := (HK.out.lt k hk).1; have h2 := (HB5.out k h).2; omega))
                    have HW6 := Lib.hid (stay_seal ((HW5.out.mono (fun _ x => x.elim)).trans HTI2.out) (fun k hk => by have h1 := (HB5.out k hk).1; have h2 := HW3.out.size; omega))
                    go_wp2_with fail
                    refine (entries_any wr _ M HT6.out.mr HMs.out (by have := HM.out; omega)).mono ?_
                    rintro y z1 ⟨vz, rfl, oz, sz⟩
                    have HZ := Lib.hid oz.ens
                    have HK7 := Lib.hid (HK6.out.ens.stay0 sz)
                    have HW7 := Lib.hid (HW6.out.trans sz)
                    clear oz sz
                    go_wp2_with fail
                    refine (entries_eq z1 _ _ M M HZ.out HK7.out).mono ?_
                    rintro y z2 ⟨rfl, sz⟩
                    rw [decide_eq_true (rfl : M = M)]
                    have HW8 := Lib.hid (HW7.out.trans sz)
                    clear sz
                    go_wp2_with fail
                    refine (sure_any z2).mono ?_
                    rintro y z3 ⟨rfl, sz⟩
                    have HW9 := Lib.hid (HW8.out.trans sz)
                    go_wp2
                    go_ret
                    exact ⟨rfl, HW9.out⟩
  · obtain ⟨n, hn⟩ : ∃ n : Nat, n = 60 := ⟨_, rfl⟩
    have hN : n ≤ L.length := by omega
    have hN60 : n ≤ 60 := by omega
    go_wp2
    rw [show (60 : Int) = (n : Int) by omega]
    clear hn hle
    go_loopw [5] (fun i wr => ∃ j : Nat, i = .int .i64 (j : Int) ∧ j ≤ n ∧ Since w wr p (putsL L j)) (fun i _ => n - (intOf i).toNat)
    case atStart => exact ⟨0, rfl, Nat.zero_le _, H1.out⟩
    case round =>
      obtain ⟨j, rfl, hj, ht⟩ := hrel
      have HT := Lib.hid ht
      have HM := Lib.hid (show (putsL L j).length ≤ 1000 by have := putsL_len L j; omega)
      clear ht
      by_cases hlt : j < n
      · obtain ⟨q, hq⟩ : ∃ q, L[j]? = some q := ⟨_, List.getElem?_eq_getElem (by omega)⟩
        obtain ⟨g, o, rfl⟩ := HX.out.ptr hq
        have kl := Lib.hid ((HX.out.stay0 HT.out.2).load hq)
        have HP := Lib.hid (putsL_succ hq)
        clear hq
        go_wp2_with (first
          | ((with_reducible refine at_op (.load 27 (.tmp 29)) rfl ?_); refine wpList_load_run (by rfl) 27 (.tmp 29) rfl ⟨g, o + j * 3, none⟩ rfl _ kl.out ?_))
        refine (put_since q HT.out HM.out).mono ?_
        rintro y w2 ⟨rfl, h2⟩
        rw [← HP.out] at h2
        have H2 := Lib.hid h2
        clear h2
        go_wp2
        refine ⟨⟨j + 1, by go_num, hlt, H2.out⟩, by simp [intOf]; omega⟩
      · obtain rfl : n = j := by omega
        obtain ⟨M, hM⟩ : ∃ M, M = putsL L n := ⟨_, rfl⟩
        rw [← hM] at HT HM
        have HMM := Lib.hid hM
        clear hM
        obtain ⟨wo, rfl⟩ : ∃ wo, wo = wr := ⟨_, rfl⟩
        go_wp2
        go_loopw [6] (fun i wr => ∃ j : Nat, i = .int .i64 (j : Int) ∧ j ≤ n ∧ Since w wr p M) (fun i _ => n - (intOf i).toNat)
        case atStart => exact ⟨0, rfl, Nat.zero_le _, HT.out⟩
        case round =>
          obtain ⟨j, rfl, hj, ht⟩ := hrel
          have HT2 := Lib.hid ht
          clear ht
          by_cases hlt : j < n
          · obtain ⟨q, hq⟩ : ∃ q, L[j]? = some q := ⟨_, List.getElem?_eq_getElem (by omega)⟩
            obtain ⟨g, o, rfl⟩ := HX.out.ptr hq
            have HQ := Lib.hid hq
            clear hq
            obtain ⟨wz, rfl⟩ : ∃ wz, wz = wr := ⟨_, rfl⟩
            go_wp2
            go_loopw [7, 8] (fun la i wr => ∃ (a k : Nat), la = .int .i64 (a : Int) ∧ i = .int .i64 (k : Int) ∧ j ≤ k ∧ k ≤ n ∧ Hid (LastOf L j k a) ∧ Stay (fun _ => False) wz wr) (fun _ i _ => n - (intOf i).toNat)
            case atStart => exact ⟨j, j, rfl, rfl, Nat.le_refl _, hj, Lib.hid (LastOf.start L j), Stay.refl _ _⟩
            case round =>
              obtain ⟨a, k, rfl, rfl, hjk, hkn, hla, hst⟩ := hrel
              have HTI := Lib.hid hst
              have HXI := Lib.hid (HX.out.stay0 (HT2.out.2.trans hst))
              clear hst
              by_cases hlt2 : k < n
              · obtain ⟨r, hr⟩ : ∃ r, L[k]? = some r := ⟨_, List.getElem?_eq_getElem (by omega)⟩
                obtain ⟨g9, o9, e9, _, hc9⟩ := HXI.out.at (by omega)
                cases e9
                have cj := (hc9 _ q HQ.out).1
                have ck := (hc9 _ r hr).1
                clear hc9
                by_cases hk : r.k = q.k
                · have HN := Lib.hid (hla.out.yes hjk HQ.out hr hk)
                  rw [hk] at ck
                  clear hr
                  go_wp2
                  go_quiet (fail)
                  have HT3 := Lib.hid (HTI.out.trans (stay_drewN (X := fun _ => False) wr nq))
                  clear cj ck
                  go_wp2
                  refine ⟨⟨k, k + 1, rfl, by go_num, by omega, hlt2, HN, HT3.out⟩, by simp [intOf]; omega⟩
                · have HN := Lib.hid (hla.out.not hjk HQ.out hr hk)
                  have hkb : (r.k == q.k) = false := by simpa using hk
                  clear hr
                  go_wp2
                  go_quiet (fail)
                  have HT3 := Lib.hid (HTI.out.trans (stay_drewN (X := fun _ => False) wr nq))
                  clear cj ck
                  go_wp2
                  refine ⟨⟨a, k + 1, rfl, by go_num, by omega, hlt2, HN, HT3.out⟩, by simp [intOf]; omega⟩
              · obtain rfl : n = k := by omega
                have hahi := hla.out.hi
                have halo := hla.out.lo
                have hal : a < n := by omega
                obtain ⟨e, he⟩ : ∃ e, L[a]? = some e := ⟨_, List.getElem?_eq_getElem (by omega)⟩
                have hkey := hla.out.key q e HQ.out he
                have HG := Lib.hid (show getL M q.k = some (norm e) by rw [HMM.out, ← hkey]; exact get_puts he _ hal hN (fun t h2 h3 y hy => by rw [hkey]; exact hla.out.no t h2 h3 q y HQ.out hy))
                obtain ⟨g9, o9, e9, _, hc9⟩ := HXI.out.at (by omega)
                cases e9
                have cj := (hc9 _ q HQ.out).1
                obtain ⟨_, ca1, ca2⟩ := hc9 _ e he
                have CJ := Lib.hid cj
                have CA1 := Lib.hid ca1
                have CA2 := Lib.hid ca2
                have HK := Lib.hid hkey
                have HT3 := Lib.hid (HT2.out.stay0 HTI.out)
                clear hc9 ca1 ca2 hkey he
                go_wp2_with fail
                refine (get_any wr _ M q.k HT3.out.1.mr HT3.out.1.srt (by have := HM.out; omega)).mono ?_
                rintro y v1 ⟨rfl, s1⟩
                rw [HG.out]
                simp only [entOf, Option.isSome_some]
                have HT4 := Lib.hid (HT3.out.stay0 s1)
                have HS4 := Lib.hid s1
                clear s1
                have HBX := Lib.hid (Box.new v1 ⟨[], [], false⟩)
                have HA := Lib.hid (show Stay (fun _ => False) v1 (v1.alloc (.cells (enC ⟨[], [], false⟩).toArray 27)) from Stay.alloc _ _)
                obtain ⟨v2, hv2⟩ : ∃ v2, v1.alloc (.cells (enC ⟨[], [], false⟩).toArray 27) = v2 := ⟨_, rfl⟩
                rw [hv2] at HBX HA
                have V2 := Lib.hid hv2
                clear hv2
                go_wp2_with (first
                  | (with_reducible refine alloc_en rfl rfl ?_; rw [V2.out])
                  | ((with_reducible refine at_op (.store 27 (.tmp 9) (.tmp 64)) rfl ?_); refine Box.store HBX.out rfl (.tmp 9) (.tmp 64) rfl rfl (norm e) rfl ?_
                     intro v3 hb3 hs3
                     have HB3 := Lib.hid hb3
                     have HS3 := Lib.hid (show Stay (fun _ => False) v1 v3 from stay_seal ((HA.out.mono (fun _ x => x.elim)).trans hs3) (fun k hk => by have hk' : k = v1.heap.size := hk; omega))
                     clear hb3 hs3))
                have HT5 := Lib.hid (HT4.out.stay0 HS3.out)
                have hs35 := HS4.out.trans HS3.out
                have dj := hs35.cell CJ.out (fun x => x)
                have da1 := hs35.cell CA1.out (fun x => x)
                have da2 := hs35.cell CA2.out (fun x => x)
                have b0 := HB3.out.c (j := 0) rfl
                have b1 := HB3.out.c (j := 1) rfl
                have b2 := HB3.out.c (j := 2) rfl
                rw [norm_k, HK.out] at b0
                rw [norm_v] at b1
                rw [norm_g] at b2
                clear hs35 HBX HA V2
                cases hg : e.g with
                | false =>
                  rw [hg] at b1 b2 da2
                  simp only [Bool.false_eq_true, if_false] at b1
                  go_quiet (fail)
                  have HT6 := Lib.hid (HT5.out.stay0 (stay_drewN (X := fun _ => False) v3 nq))
                  clear b0 b1 b2 dj da1 da2
                  go_wp2
                  refine ⟨⟨j + 1, by go_num, hlt, HT6.out⟩, by simp [intOf]; omega⟩
                | true =>
                  rw [hg] at b1 b2 da2
                  simp only [if_true] at b1
                  go_quiet (fail)
                  have HT6 := Lib.hid (HT5.out.stay0 (stay_drewN (X := fun _ => False) v3 nq))
                  clear b0 b1 b2 dj da1 da2
                  go_wp2
                  refine ⟨⟨j + 1, by go_num, hlt, HT6.out⟩, by simp [intOf]; omega⟩
          · obtain rfl : n = j := by omega
            obtain ⟨wc, rfl⟩ : ∃ wc, wc = wr := ⟨_, rfl⟩
            have HMs := Lib.hid HT2.out.1.srt
            have HT3 := Lib.hid (HT2.out.1.mono (B' := fun k => k < wc.heap.size) (fun k hk _ => hk))
            have HW3 := Lib.hid HT2.out.2
            go_wp2_with fail
            refine (entries_any wc _ M HT2.out.1.mr HMs.out (by have := HM.out; omega)).mono ?_
            rintro y v1 ⟨va, rfl, oa, s1⟩
            have HE := Lib.hid oa
            have HT4 := Lib.hid (HT3.out.stay0 s1)
            have HW4 := Lib.hid (HW3.out.trans s1)
            have HZ4 := Lib.hid s1.size
            obtain ⟨vb, vc, rfl⟩ := oa.form
            have hml : (M.length : Int) ≤ 1000 := by have := HM.out; omega
            clear oa s1 HT2 HT3
            go_wp2
            go_loopw [12] (fun i wr => ∃ j : Nat, i = .int .i64 (j : Int) ∧ 1 ≤ j ∧ (j ≤ M.length ∨ j = 1) ∧ Stay (fun _ => False) v1 wr) (fun i _ => M.length - (intOf i).toNat)
            case atStart => exact ⟨1, rfl, Nat.le_refl _, .inr rfl, Stay.refl _ _⟩
            case round =>
              obtain ⟨j, rfl, hj1, hj, hst⟩ := hrel
              have HTI := Lib.hid hst
              have HEI := Lib.hid (HE.out.ens.stay0 hst)
              clear hst
              by_cases hlt : j < M.length
              · obtain ⟨q, hq⟩ : ∃ q, M[j]? = some q := ⟨_, List.getElem?_eq_getElem (by omega)⟩
                obtain ⟨r, hr⟩ : ∃ r, M[j - 1]? = some r := ⟨_, List.getElem?_eq_getElem (by omega)⟩
                obtain ⟨g9, o9, rfl, _, hc9⟩ := HEI.out.at (by omega)
                have cj := (hc9 _ q hq).1
                have ck := (hc9 _ r hr).1
                have hle2 := less_eq r.k q.k
                rw [sorted_at HMs.out (show j - 1 < j by omega) hr hq] at hle2
                obtain ⟨i1, rfl⟩ : ∃ i1, j = i1 + 1 := ⟨j - 1, by omega⟩
                rw [show i1 + 1 - 1 = i1 by omega] at ck
                clear hc9 hq hr
                go_wp2
                go_quiet (fail)
                have HT5 := Lib.hid (HTI.out.trans (stay_drewN (X := fun _ => False) wr nq))
                clear cj ck
                go_wp2
                refine ⟨⟨i1 + 2, by go_num, by omega, .inl (by omega), HT5.out⟩, by simp [intOf]; omega⟩
              · go_wp2_with fail
                refine (own_any wr _ M HEI.out (by have := HM.out; omega)).mono ?_
                rintro y u1 ⟨vk, rfl, ok, sk⟩
                have HK := Lib.hid ok
                have HS5 := Lib.hid (HTI.out.trans sk)
                have HE5 := Lib.hid (HE.out.stay0 HS5.out)
                have HT5 := Lib.hid (HT4.out.stay0 HS5.out)
                have HW5 := Lib.hid (HW4.out.trans HS5.out)
                have HB5 := Lib.hid (show ∀ k, (Value.slice vb M.length vc).ownBlock = some k → wc.heap.size ≤ k ∧ k < wr.heap.size from fun k hk => ⟨(HE.out.lt k hk).1, Nat.lt_of_lt_of_le (HE.out.lt k hk).2 HTI.out.size⟩)
                obtain ⟨vka, vkc, rfl⟩ := ok.form
                clear ok sk HE HT4 HW4 HEI
                obtain ⟨wk, rfl⟩ : ∃ wk, wk = wr := ⟨_, rfl⟩
                go_wp2
                go_loopw [14] (fun i wr => ∃ j : Nat, i = .int .i64 (j : Int) ∧ j ≤ M.length ∧ Stay (fun k => (Value.slice vb M.length vc).ownBlock = some k) u1 wr ∧ ∃ L' : List En, L'.length = M.length ∧ EnO wc.heap.size wr (.slice vb M.length vc) L') (fun i _ => M.length - (intOf i).toNat)
                case atStart => exact ⟨0, rfl, Nat.zero_le _, Stay.refl _ _, M, rfl, HE5.out⟩
                case round =>
                  obtain ⟨t, rfl, htl, hst, L', hL', ho⟩ := hrel
                  have HTI2 := Lib.hid hst
                  have HO := Lib.hid ho
                  clear hst
                  by_cases hlt3 : t < M.length
                  · obtain ⟨q, hq⟩ : ∃ q, L'[t]? = some q := ⟨_, List.getElem?_eq_getElem (by omega)⟩
                    obtain ⟨g9, rfl, ct, ft⟩ := ho.at_key hq
                    have HN := Lib.hid (ho.set_key hq [115, 112, 111, 105, 108, 116])
                    have HNl := Lib.hid (show (L'.set t ⟨[115, 112, 111, 105, 108, 116], q.v, q.g⟩).length = M.length by rw [List.length_set]; exact hL')
                    have HNs := Lib.hid (HTI2.out.trans (Stay.setCell (X := fun k => (Value.slice (some ⟨g9, 0, none⟩) M.length vc).ownBlock = some k) wr ⟨g9, t * 3, none⟩ (strV [115, 112, 111, 105, 108, 116]) rfl))
                    clear ho hq
                    go_wp2
                    refine ⟨⟨t + 1, by go_num, hlt3, HNs.out, _, HNl.out, HN.out⟩, by simp [intOf]; omega⟩
                  · have HT6 := Lib.hid (HT5.out.stay HTI2.out (fun k (hk : k < wc.heap.size) h => by have := (HB5.out k h).1; omega))
                    have HK6 := Lib.hid (HK.out.stay HTI2.out (fun k hk h => by have h1 := (HK.out.lt k hk).1; have h2 := (HB5.out k h).2; omega))
                    have HW6 := Lib.hid (stay_seal ((HW5.out.mono (fun _ x => x.elim)).trans HTI2.out) (fun k hk => by have h1 := (HB5.out k hk).1; have h2 := HW3.out.size; omega))
                    go_wp2_with fail
                    refine (entries_any wr _ M HT6.out.mr HMs.out (by have := HM.out; omega)).mono ?_
                    rintro y z1 ⟨vz, rfl, oz, sz⟩
                    have HZ := Lib.hid oz.ens
                    have HK7 := Lib.hid (HK6.out.ens.stay0 sz)
                    have HW7 := Lib.hid (HW6.out.trans sz)
                    clear oz sz
                    go_wp2_with fail
                    refine (entries_eq z1 _ _ M M HZ.out HK7.out).mono ?_
                    rintro y z2 ⟨rfl, sz⟩
                    rw [decide_eq_true (rfl : M = M)]
                    have HW8 := Lib.hid (HW7.out.trans sz)
                    clear sz
                    go_wp2_with fail
                    refine (sure_any z2).mono ?_
                    rintro y z3 ⟨rfl, sz⟩
                    have HW9 := Lib.hid (HW8.out.trans sz)
                    go_wp2
                    go_ret
                    exact ⟨rfl, HW9.out⟩
end Go.Proofs.Ytnhcnikickihgaa.Me
