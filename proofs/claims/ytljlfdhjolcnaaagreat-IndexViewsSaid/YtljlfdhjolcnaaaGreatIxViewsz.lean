/-
  IndexViews: the walk.
-/
import Derived.Test.YtljlfdhjolcnaaaGreatIxLwz
namespace Go.Proofs.YtljlfdhjolcnaaaGreat.Ix
open Go.RowKit Go.Maps Me Mg Bo
set_option maxRecDepth 100000
set_option linter.unusedVariables false
set_option linter.unusedSimpArgs false

theorem take_sum_le (l : List Nat) (j : Nat) : (l.take j).sum ≤ l.sum := by
  conv => rhs; rw [← List.take_append_drop j l]
  rw [List.sum_append]
  omega
theorem info_vp : (Tryz.prog.info? 62).map (fun i => (i.zero, i.size, i.bytes)) = some (some (.pointer none), 1, 8) := by kernel_rfl
theorem info_es : (Tryz.prog.info? 34).map (fun i => (i.zero, i.size, i.bytes)) = some (some (.slice none 0 0), 1, 24) := by kernel_rfl
theorem u64_small (n : Nat) (h : n ≤ 1000) : IntKind.u64.wrap (n : Int) = (n : Int) := by
  simp [IntKind.wrap, IntKind.bits, IntKind.signed]
  omega
set_option maxHeartbeats 8000000 in
theorem views_walk (w : World) (x0 x1 x2 x3 : Int) (xs : Value) (L : List Ac) (hx : AcS w xs L) (hk : ∀ t ∈ L, AcOk t) :
    Calls Tryz.prog 4 #[.agg #[.int .i64 x0, .int .i64 x1, .int .i64 x2, .int .i64 x3], xs] w fun e w' => e = .returned (.bool true) ∧ Stay (fun _ => False) w w' := by
  obtain ⟨n, hn⟩ : ∃ n, n = L.length := ⟨_, rfl⟩
  obtain ⟨xa, xc, rfl⟩ : ∃ a c, xs = .slice a n c := by obtain ⟨p, q, e, _⟩ := hx; exact ⟨p, q, by rw [e, hn]⟩
  have hn1 : n ≤ 9223372036854775807 := by obtain ⟨_, _, e, h1, h2, _⟩ := hx; rw [hn]; exact Nat.le_trans h1 h2
  have HN := Lib.hid hn
  have HX := Lib.hid hx
  have HK := Lib.hid hk
  have HLA := Lib.hid (fun W => laid_any W x0 x1 x2 x3)
  have l0 := small_lt x0 (k := 4) (by decide)
  have l1 := small_lt x1 (k := 3) (by decide)
  have l2 := small_lt x2 (k := 4) (by decide)
  have l3 := small_lt x3 (k := 10) (by decide)
  obtain ⟨m, hm⟩ : ∃ m, m = 1 + smallN x0 4 := ⟨_, rfl⟩
  obtain ⟨f, hf⟩ : ∃ f, f = 1 + smallN x1 3 := ⟨_, rfl⟩
  obtain ⟨p, hp⟩ : ∃ p, p = 1 + smallN x2 4 := ⟨_, rfl⟩
  obtain ⟨q, hq⟩ : ∃ q, q = 1 + smallN x3 10 := ⟨_, rfl⟩
  rw [← hm, ← hf, ← hp, ← hq] at HLA
  have hm2 : 1 ≤ m ∧ m ≤ 4 := by omega
  have HNW := Lib.hid (fun W => new_any True W m f p q ⟨hm2.1, by show m ≤ 1000; omega, by show 1 ≤ f; omega, by show f ≤ 16; omega, by show 1 ≤ p; omega, by show p ≤ 1000; omega, by show 1 ≤ q; omega, by show q ≤ 64; omega⟩)
  unfold cfgV at HLA HNW
  have HM := Lib.hid hm2
  clear hx hk hn hm hf hp hq l0 l1 l2 l3 hm2
  go_enter Tryz.func4, Tryz.ntmps4
  go_wp2_with fail
  refine (HLA.out _).mono ?_
  rintro e w1 ⟨rfl, hs1⟩
  have HS1 := Lib.hid ((show Stay (fun _ => False) w (w.alloc (.cells #[.int .i64 x0, .int .i64 x1, .int .i64 x2, .int .i64 x3] 23)) from Stay.alloc _ _).trans hs1)
  clear hs1 HLA
  go_wp2_with fail
  refine (HNW.out w1).mono ?_
  rintro e w3 ⟨⟨x, rfl, hi3⟩, hs3⟩
  have HI3 := Lib.hid (show IxAt (fun k => w1.heap.size ≤ k ∧ k < w3.heap.size) w3 x (freshI True m f p q) from hi3.mono (fun k hk h => ⟨h, hk⟩))
  have HS3 := Lib.hid (HS1.out.trans hs3)
  have HZ3 := Lib.hid (show w1.heap.size ≤ w3.heap.size from hs3.size)
  have HX3 := Lib.hid (HX.out.stay0 (HS1.out.trans hs3))
  have HV := Lib.hid (heavy_any w3 _ L HX3.out HK.out)
  clear hi3 hs3 HNW
  go_wp2_with fail
  refine HV.out.mono ?_
  rintro e w4 ⟨⟨b, rfl⟩, hs4⟩
  have HS4 := Lib.hid (HS3.out.trans hs4)
  have HI4 := Lib.hid (HI3.out.stay0 hs4)
  have HX4 := Lib.hid (HX3.out.stay0 hs4)
  have HZ4 := Lib.hid (Nat.le_trans HZ3.out hs4.size)
  have HZ34 := Lib.hid (show w3.heap.size ≤ w4.heap.size from hs4.size)
  clear hs4 HV HI3 HX3 HS3
  cases b with
  | true =>
    go_wp2_with fail
    refine (sure_any w4).mono ?_
    rintro e w5 ⟨rfl, hs5⟩
    have HS5 := Lib.hid (HS4.out.trans hs5)
    clear hs5
    go_wp2
    go_ret
    exact ⟨rfl, HS5.out⟩
  | false =>
    go_wp2
    go_loopw [7, 8, 9] (fun vv hv iv wr => ∃ (i kn vc hc : Nat) (va ha : Option Addr), vv = .slice va kn vc ∧ hv = .slice ha kn hc ∧ iv = .int .i64 (i : Int) ∧ i ≤ n ∧ i ≤ 40 ∧ kn ≤ i ∧ Hid (VRel w1.heap.size w4 wr x i kn (.slice va kn vc) (.slice ha kn hc))) (fun _ _ iv _ => n - (intOf iv).toNat)
    case atStart =>
      refine ⟨0, 0, 0, 0, none, none, rfl, rfl, rfl, Nat.zero_le _, Nat.zero_le _, Nat.le_refl _, Lib.hid (VRel.start HI4.out (fun k hk => ?_))⟩
      have := HZ34.out
      omega
    case round =>
      obtain ⟨i, kn, vc, hc, va, ha, rfl, rfl, rfl, hi, hi40, hki, HR⟩ := hrel
      have HSW := Lib.hid (show Stay (fun k => w1.heap.size ≤ k) w4 wr from by
        obtain ⟨_, _, _, _, _, _, _, _, _, _, _, _, h6⟩ := HR.out
        exact h6)
      by_cases hlt : i < n
      · by_cases h40 : i < 40
        · have h40' : (i : Int) < 40 := by omega
          obtain ⟨t, ht⟩ : ∃ t, L[i]? = some t := ⟨_, List.getElem?_eq_getElem (by rw [← HN.out]; exact hlt)⟩
          have hxr : AcS wr (.slice xa n xc) L := by
            have hw1 : Stay (fun _ => False) w wr := HS4.out.andThen HSW.out (fun k hk h => by have := HS1.out.size; omega)
            exact HX.out.stay0 hw1
          obtain ⟨g2, o2, rfl, k0, k1, k2, k3⟩ := hxr.at ht
          have hok := HK.out t (List.mem_of_getElem? ht)
          have HOK := Lib.hid hok
          have HR5 := Lib.hid (show VRel w1.heap.size w4 (wr.alloc (.cells #[.int .i64 t.kd, .int .i64 t.n, .string ⟨t.key.toArray⟩, .string ⟨t.val.toArray⟩] 37)) x i kn (.slice va kn vc) (.slice ha kn hc) from HR.out.stay0 (Stay.alloc _ _))
          obtain ⟨kd, hkd⟩ : ∃ kd, kd = smallN t.kd 10 := ⟨_, rfl⟩
          have hkd10 : kd < 10 := by rw [hkd]; exact small_lt _ (by decide)
          have hkv : wrap64 ((IntKind.u64.wrap t.kd).tmod 10) = (kd : Int) := by
            rw [show (10 : Int) = ((10 : Nat) : Int) from rfl, small_mod _ (by decide), ← hkd, wrap_small (by omega) (by omega)]
          clear hxr ht hok hkd
          refine wp_seq_k (fun K1 hk1 => ?_)
          have HK1 := Lib.hid hk1
          clear hk1
          go_wp2_with fail
          refine HK1.out _ _ ?_
          refine wp_seq_k (fun K2 hk2 => ?_)
          have HK2 := Lib.hid hk2
          clear hk2 HK1
          refine wp_block ?_
          refine wp_seq_k (fun K3 hk3 => ?_)
          have HK3 := Lib.hid hk3
          clear hk3
          go_wp2_with fail
          refine HK3.out _ _ ?_
          refine wp_seq_k (fun K4 hk4 => ?_)
          have HK4 := Lib.hid hk4
          clear hk4 HK3
          obtain ⟨K9, hK9⟩ : ∃ K9 : Act → World → Prop, K9 = fun a9 W => ∃ (kn2 vc2 hc2 : Nat) (va2 ha2 : Option Addr), a9 = { tmps := List.toArray (.agg #[.int .i64 x0, .int .i64 x1, .int .i64 x2, .int .i64 x3] :: .slice (some ⟨g2, o2, none⟩) n xc :: .pointer (some ⟨w.heap.size, 0, none⟩) :: undef :: a9.tmps.getD 4 undef :: .pointer (some ⟨x, 0, none⟩) :: .nilIface :: .slice va2 kn2 vc2 :: .slice ha2 kn2 hc2 :: .int .i64 (i : Int) :: a9.tmps.getD 10 undef :: a9.tmps.getD 11 undef :: a9.tmps.getD 12 undef :: a9.tmps.getD 13 undef :: a9.tmps.getD 14 undef :: undef :: undef :: undef :: undef :: .tuple #[.pointer (some ⟨x, 0, none⟩), .nilIface] :: .agg #[.int .i64 x0, .int .i64 x1, .int .i64 x2, .int .i64 x3] :: .agg #[.int .i64 (m : Int), .int .i64 (f : Int), .int .i64 (p : Int), .int .i64 (q : Int)] :: .tuple #[.pointer (some ⟨x, 0, none⟩), .nilIface] :: .pointer (some ⟨x, 0, none⟩) :: .nilIface :: .nilIface :: .bool false :: .bool false :: .pointer (some ⟨x, 0, none⟩) :: .bool false :: .bool false :: .bool false :: .slice (some ⟨g2, o2, none⟩) n xc :: .bool false :: .bool false :: undef :: undef :: undef :: undef :: undef :: a9.tmps.getD 40 undef :: a9.tmps.getD 41 undef :: a9.tmps.getD 42 undef :: a9.tmps.getD 43 undef :: a9.tmps.getD 44 undef :: a9.tmps.getD 45 undef :: a9.tmps.getD 46 undef :: a9.tmps.getD 47 undef :: a9.tmps.getD 48 undef :: a9.tmps.getD 49 undef :: a9.tmps.getD 50 undef :: a9.tmps.getD 51 undef :: a9.tmps.getD 52 undef :: a9.tmps.getD 53 undef :: a9.tmps.getD 54 undef :: a9.tmps.getD 55 undef :: a9.tmps.getD 56 undef :: a9.tmps.getD 57 undef :: a9.tmps.getD 58 undef :: a9.tmps.getD 59 undef :: a9.tmps.getD 60 undef :: a9.tmps.getD 61 undef :: a9.tmps.getD 62 undef :: a9.tmps.getD 63 undef :: a9.tmps.getD 64 undef :: a9.tmps.getD 65 undef :: a9.tmps.getD 66 undef :: a9.tmps.getD 67 undef :: a9.tmps.getD 68 undef :: a9.tmps.getD 69 undef :: a9.tmps.getD 70 undef :: a9.tmps.getD 71 undef :: a9.tmps.getD 72 undef :: a9.tmps.getD 73 undef :: a9.tmps.getD 74 undef :: a9.tmps.getD 75 undef :: a9.tmps.getD 76 undef :: a9.tmps.getD 77 undef :: a9.tmps.getD 78 undef :: a9.tmps.getD 79 undef :: a9.tmps.getD 80 undef :: a9.tmps.getD 81 undef :: a9.tmps.getD 82 undef :: a9.tmps.getD 83 undef :: a9.tmps.getD 84 undef :: a9.tmps.getD 85 undef :: a9.tmps.getD 86 undef :: a9.tmps.getD 87 undef :: a9.tmps.getD 88 undef :: a9.tmps.getD 89 undef :: a9.tmps.getD 90 undef :: a9.tmps.getD 91 undef :: a9.tmps.getD 92 undef :: a9.tmps.getD 93 undef :: a9.tmps.getD 94 undef :: a9.tmps.getD 95 undef :: a9.tmps.getD 96 undef :: a9.tmps.getD 97 undef :: a9.tmps.getD 98 undef :: a9.tmps.getD 99 undef :: a9.tmps.getD 100 undef :: a9.tmps.getD 101 undef :: a9.tmps.getD 102 undef :: a9.tmps.getD 103 undef :: a9.tmps.getD 104 undef :: a9.tmps.getD 105 undef :: a9.tmps.getD 106 undef :: a9.tmps.getD 107 undef :: a9.tmps.getD 108 undef :: a9.tmps.getD 109 undef :: a9.tmps.getD 110 undef :: a9.tmps.getD 111 undef :: a9.tmps.getD 112 undef :: a9.tmps.getD 113 undef :: a9.tmps.getD 114 undef :: a9.tmps.getD 115 undef :: a9.tmps.getD 116 undef :: a9.tmps.getD 117 undef :: a9.tmps.getD 118 undef :: a9.tmps.getD 119 undef :: a9.tmps.getD 120 undef :: a9.tmps.getD 121 undef :: a9.tmps.getD 122 undef :: a9.tmps.getD 123 undef :: a9.tmps.getD 124 undef :: a9.tmps.getD 125 undef :: a9.tmps.getD 126 undef :: a9.tmps.getD 127 undef :: a9.tmps.getD 128 undef :: a9.tmps.getD 129 undef :: a9.tmps.getD 130 undef :: a9.tmps.getD 131 undef :: a9.tmps.getD 132 undef :: a9.tmps.getD 133 undef :: a9.tmps.getD 134 undef :: a9.tmps.getD 135 undef :: a9.tmps.getD 136 undef :: a9.tmps.getD 137 undef :: undef :: undef :: undef :: undef :: undef :: undef :: undef :: undef :: undef :: undef :: undef :: undef :: undef :: undef :: undef :: undef :: undef :: undef :: undef :: undef :: undef :: undef :: undef :: undef :: undef :: undef :: undef :: undef :: undef :: undef :: undef :: undef :: undef :: undef :: undef :: undef :: undef :: []), defers := [] } ∧ (kn2 ≤ i + 1 ∧ VRel w1.heap.size w4 W x (i + 1) kn2 (.slice va2 kn2 vc2) (.slice ha2 kn2 hc2)) := ⟨_, rfl⟩
          have HK9 := Lib.hid hK9
          clear hK9
          refine wp_mid (K2 := K9) (fun a9 W hk9 => HK4.out _ _ ?next) ?region
          case region =>
            --[[
            have hkc : kd = 3 ∨ kd = 4 ∨ ((kd = 5 ∨ kd = 6) ∨ kd = 7) ∨ kd = 8 ∨ kd = 9 ∨ ((kd = 0 ∨ kd = 1) ∨ kd = 2) := by omega
            rcases hkc with rfl | rfl | ((rfl | rfl) | rfl) | rfl | rfl | ((rfl | rfl) | rfl)
            · go_wp2_with fail
              refine (VRel.drop HR5.out (by omega) t.key HOK.out.key).mono ?_
              rintro y w6 ⟨⟨v6, rfl⟩, hr6⟩
              go_wp2
              rw [HK9.out]
              exact ⟨kn, vc, hc, va, ha, rfl, by omega, hr6⟩
            · go_wp2_with fail
              refine (VRel.flush HR5.out (by omega)).mono ?_
              rintro y w6 ⟨⟨v6, rfl⟩, hr6⟩
              go_wp2
              rw [HK9.out]
              exact ⟨kn, vc, hc, va, ha, rfl, by omega, hr6⟩
            · go_wp2_with fail
              refine (VRel.compact HR5.out (by omega)).mono ?_
              rintro y w6 (⟨c, rfl, hr6⟩ | ⟨j, rfl, hj6⟩)
              · unfold errI
                go_wp2
                rw [HK9.out]
                exact ⟨kn, vc, hc, va, ha, rfl, by omega, hr6⟩
              · go_wp2_with fail
                refine (VJob.step hj6 (by omega) (by omega)).mono ?_
                rintro y w7 ⟨⟨v7, rfl⟩, hr6⟩
                go_wp2
                rw [HK9.out]
                exact ⟨kn, vc, hc, va, ha, rfl, by omega, hr6⟩
            · go_wp2_with fail
              refine (VRel.compact HR5.out (by omega)).mono ?_
              rintro y w6 (⟨c, rfl, hr6⟩ | ⟨j, rfl, hj6⟩)
              · unfold errI
                go_wp2
                rw [HK9.out]
                exact ⟨kn, vc, hc, va, ha, rfl, by omega, hr6⟩
              · go_wp2_with fail
                refine (VJob.step hj6 (by omega) (by omega)).mono ?_
                rintro y w7 ⟨⟨v7, rfl⟩, hr6⟩
                go_wp2
                rw [HK9.out]
                exact ⟨kn, vc, hc, va, ha, rfl, by omega, hr6⟩
            · go_wp2_with fail
              refine (VRel.compact HR5.out (by omega)).mono ?_
              rintro y w6 (⟨c, rfl, hr6⟩ | ⟨j, rfl, hj6⟩)
              · unfold errI
                go_wp2
                rw [HK9.out]
                exact ⟨kn, vc, hc, va, ha, rfl, by omega, hr6⟩
              · go_wp2_with fail
                refine (VJob.step hj6 (by omega) (by omega)).mono ?_
                rintro y w7 ⟨⟨v7, rfl⟩, hr6⟩
                go_wp2
                rw [HK9.out]
                exact ⟨kn, vc, hc, va, ha, rfl, by omega, hr6⟩
            · go_wp2_with fail
              refine (VRel.view HR5.out (by omega) (by omega)).mono ?_
              rintro y w6 ⟨pv, rfl, hm6⟩
              obtain ⟨PS, HS, hps, hhs, hpv, hph, hrg⟩ := hm6.rows (by omega)
              have HPS := Lib.hid hps
              have HHS := Lib.hid hhs
              have HPV := Lib.hid hpv
              have HPH := Lib.hid hph
              have HRG := Lib.hid hrg
              have HA7 := Lib.hid (show Stay (fun _ => False) w6 (w6.alloc (.cells #[.pointer (some ⟨pv, 0, none⟩)] 62)) from Stay.alloc _ _)
              have HU7 := Lib.hid (show CS (w6.alloc (.cells #[.pointer (some ⟨pv, 0, none⟩)] 62)) (.slice (some ⟨w6.heap.size, 0, none⟩) 1 1) [ptrV pv] from (CO.lit (base := 0) (t := 62) w6 [ptrV pv] (Nat.zero_le _) (by simp)).cs)
              obtain ⟨w7, hw7⟩ : ∃ w7, w6.alloc (.cells #[.pointer (some ⟨pv, 0, none⟩)] 62) = w7 := ⟨_, rfl⟩
              rw [hw7] at HA7 HU7
              have W7 := Lib.hid hw7
              clear hps hhs hpv hph hrg hm6 hw7
              go_wp2_with (at_builtin; rw [W7.out]; refine wpList_append_co rfl (.tmp 90) (.tmp 93) 61 rfl _ 8 Tryz.underlying61 info_vp rfl (by decide) rfl rfl (HPV.out.stay0 HA7.out) HU7.out (by simp [ptrV, Value.oneCell']) (by rw [List.length_map, HPS.out]; simp; omega) (Nat.zero_le _) ?_; intro v8 w8 ho8 hs8 hn8; have HO8 := Lib.hid ho8; have HS8 := Lib.hid hs8; have HN8 := Lib.hid hn8; obtain ⟨l8, hl8⟩ : ∃ l8, l8 = kn + 1 := ⟨_, rfl⟩; obtain ⟨a8, c8, rfl⟩ : ∃ a c, v8 = .slice a l8 c := (by obtain ⟨a, c, e⟩ := ho8.form; exact ⟨a, c, by rw [e, hl8]; simp [HPS.out]⟩); have HL8 := Lib.hid hl8; clear ho8 hs8 hn8 hl8)
              refine (HRG.out w8 ((HA7.out.mono (fun _ x => x.elim)).trans HS8.out)).mono ?_
              rintro y w9 ⟨v9, M, rfl, ho9, hs9, hfin⟩
              have HFN := Lib.hid hfin
              have HO9 := Lib.hid ho9
              obtain ⟨a9, n9, c9, rfl⟩ : ∃ a n c, v9 = .slice a n c := by obtain ⟨a, c, e⟩ := ho9.form; exact ⟨a, _, c, e⟩
              have HS9 := Lib.hid hs9
              have HA10 := Lib.hid (show Stay (fun _ => False) w9 (w9.alloc (.cells #[.slice a9 n9 c9] 34)) from Stay.alloc _ _)
              have HU10 := Lib.hid (show CS (w9.alloc (.cells #[.slice a9 n9 c9] 34)) (.slice (some ⟨w9.heap.size, 0, none⟩) 1 1) [.slice a9 n9 c9] from (CO.lit (base := 0) (t := 34) w9 [.slice a9 n9 c9] (Nat.zero_le _) (by simp)).cs)
              obtain ⟨w10, hw10⟩ : ∃ w10, w9.alloc (.cells #[.slice a9 n9 c9] 34) = w10 := ⟨_, rfl⟩
              rw [hw10] at HA10 HU10
              have W10 := Lib.hid hw10
              have HPH8 := Lib.hid ((HPH.out.stay0 HA7.out).stay HS8.out (fun k hk hx => absurd ((((HPH.out.stay0 HA7.out).ty k hk)).uniq ((HPV.out.stay0 HA7.out).ty k hx)) (by decide)))
              have HPH10 := Lib.hid ((HPH8.out.stay0 hs9).stay0 HA10.out)
              have HO8b := Lib.hid ((HO8.out.stay0 hs9).stay0 HA10.out)
              have HO9b := Lib.hid (HO9.out.stay0 HA10.out)
              clear hfin ho9 hs9 hw10
              go_wp2_with (at_builtin; rw [W10.out]; refine wpList_append_co rfl (.tmp 95) (.tmp 98) 51 rfl _ 24 Tryz.underlying51 info_es rfl (by decide) rfl rfl HPH10.out HU10.out (by simp [Value.oneCell']) (by rw [HHS.out]; simp; omega) (Nat.zero_le _) ?_; intro v11 w11 ho11 hs11 hn11; have HO11 := Lib.hid ho11; have HS11 := Lib.hid hs11; have HN11 := Lib.hid hn11; obtain ⟨a11, c11, rfl⟩ : ∃ a c, v11 = .slice a l8 c := (by obtain ⟨a, c, e⟩ := ho11.form; exact ⟨a, c, by rw [e, HL8.out]; simp [HHS.out]⟩); clear ho11 hs11 hn11)
              rw [HK9.out]
              have hz7 := HA7.out.size
              have hz8 := HS8.out.size
              have hz9 := HS9.out.size
              have hz10 := HA10.out.size
              have hs611 : Stay (fun k => (Value.slice va kn vc).ownBlock = some k ∨ (Value.slice ha kn hc).ownBlock = some k) w6 w11 := ((HA7.out.mono (fun _ x => x.elim)).trans ((HS8.out.mono (fun _ x => .inl x)).trans ((HS9.out.mono (fun _ x => x.elim)).trans ((HA10.out.mono (fun _ x => x.elim)).trans (HS11.out.mono (fun _ x => .inr x))))))
              refine ⟨l8, c8, c11, a8, a11, rfl, by rw [HL8.out]; omega, ?_⟩
              have hl8 := HL8.out
              subst hl8
              refine HFN.out w11 _ _ hs611 ?_ HO11.out ?_ (fun k hk => ?_) (fun k hk => ?_) (fun k hk => Nat.le_trans (Nat.le_trans hz7 hz8) (HO9.out.lt k hk).1)
              · have h1 := HO8b.out.stay HS11.out (fun k hk hx => absurd ((HO8b.out.ty k hk).uniq (HPH10.out.ty k hx)) (by decide))
                rw [List.map_append]
                exact h1
              · exact (HO9b.out.rebase (fun k _ => Nat.zero_le k)).stay HS11.out (fun k hk hx => absurd ((show Ty w10 k 42 from (Mg.EnO.ent HO9b.out).2 k hk).uniq (HPH10.out.ty k hx)) (by decide))
              · rcases HN8.out with h1 | h1
                · exact .inl (h1 ▸ hk)
                · rw [h1] at hk
                  cases hk
                  exact .inr hz7
              · rcases HN11.out with h1 | h1
                · exact .inl (h1 ▸ hk)
                · rw [h1] at hk
                  cases hk
                  exact .inr (by omega)
            · by_cases hk0 : kn = 0
              · have hk0' : ((0 : Int) < (kn : Int)) = False := by simp; omega
                go_wp2
                have hr6 := HR5.out.up
                rw [HK9.out]
                exact ⟨kn, vc, hc, va, ha, rfl, by omega, hr6⟩
              · have hk0' : ((0 : Int) < (kn : Int)) = True := by simp; omega
                have hkz : ¬ (kn : Int) = 0 := by omega
                obtain ⟨kk, hkk⟩ : ∃ kk, kk = smallN t.n kn := ⟨_, rfl⟩
                have hkl : kk < kn := by rw [hkk]; exact small_lt _ (by omega)
                have hu1 : IntKind.u64.wrap (kn : Int) = (kn : Int) := u64_small _ (by omega)
                have hmd : (IntKind.u64.wrap t.n).tmod (kn : Int) = (kk : Int) := by rw [hkk]; exact small_mod _ (by omega)
                obtain ⟨pv, gv, gh, cv, ch, u, M, e1, e2, q1, q2, _⟩ := HR5.out.one hkl
                cases e1
                cases e2
                have HLV := Lib.hid (VRel.leave HR5.out (by omega) hkl (by omega) rfl q1)
                clear hkk q2
                go_wp2_with fail
                refine HLV.out.mono ?_
                rintro y w6 ⟨rfl, HS, hlh, hco, hfin⟩
                have hlu : ∃ u, HS[kk]? = some u := ⟨_, List.getElem?_eq_getElem (by omega)⟩
                obtain ⟨u', hu'⟩ := hlu
                have ch6 : w6.cell? ⟨gh, kk, none⟩ = some u' := hco.cell hu'
                have fh6 : w6.frozen? ⟨gh, kk, none⟩ = false := hco.fr kk
                have HCS := Lib.hid (hfin (w6.setCell ⟨gh, kk, none⟩ (.slice none 0 0)) (Stay.setCell _ _ _ rfl) (hco.set kk (.slice none 0 0)))
                clear hco hfin hu' q1 HLV
                go_wp2
                have hr6 := HCS.out
                rw [HK9.out]
                exact ⟨kn, vc, hc, _, _, rfl, by omega, hr6⟩
            · go_wp2_with fail
              refine (VRel.put HR5.out (by omega) t.key t.val HOK.out.key HOK.out.val).mono ?_
              rintro y w6 ⟨⟨v6, rfl⟩, hr6⟩
              go_wp2
              rw [HK9.out]
              exact ⟨kn, vc, hc, va, ha, rfl, by omega, hr6⟩
            · go_wp2_with fail
              refine (VRel.put HR5.out (by omega) t.key t.val HOK.out.key HOK.out.val).mono ?_
              rintro y w6 ⟨⟨v6, rfl⟩, hr6⟩
              go_wp2
              rw [HK9.out]
              exact ⟨kn, vc, hc, va, ha, rfl, by omega, hr6⟩
            · go_wp2_with fail
              refine (VRel.put HR5.out (by omega) t.key t.val HOK.out.key HOK.out.val).mono ?_
              rintro y w6 ⟨⟨v6, rfl⟩, hr6⟩
              go_wp2
              rw [HK9.out]
              exact ⟨kn, vc, hc, va, ha, rfl, by omega, hr6⟩
            --]]
          case next =>
            rw [HK9.out] at hk9
            obtain ⟨kn2, vc2, hc2, va2, ha2, hfr9, hk2, hr9⟩ := hk9
            obtain ⟨y, hy⟩ : ∃ y : Nat → Value, ∀ i, a9.tmps.getD i undef = y i := ⟨_, fun _ => rfl⟩
            simp only [hy] at hfr9
            clear hy HK9 hkv hkd10 k0 k1 k2 k3 HR5
            subst hfr9
            have HR9 := Lib.hid hr9
            clear hr9
            go_wp2_with fail
            go_loopw [14] (fun kv wz => ∃ kk : Nat, kv = .int .i64 (kk : Int) ∧ kk ≤ kn2 ∧ Hid (VRel w1.heap.size w4 wz x (i + 1) kn2 (.slice va2 kn2 vc2) (.slice ha2 kn2 hc2))) (fun kv _ => kn2 - (intOf kv).toNat)
            case atStart => exact ⟨0, rfl, Nat.zero_le _, HR9⟩
            case round =>
              obtain ⟨kk, rfl, hkk, HRZ⟩ := hrel
              by_cases hkl : kk < kn2
              · obtain ⟨pv, gv, gh, cv, ch, u, M, e1, e2, q1, q2, q3, q4⟩ := HRZ.out.one hkl
                cases e1
                cases e2
                obtain ⟨ua, un, uc, rfl⟩ : ∃ a n c, u = .slice a n c := by obtain ⟨a, c, e⟩ := q3.form; exact ⟨a, _, c, e⟩
                have HRG := Lib.hid q4
                have HEN := Lib.hid q3
                clear q3 q4
                go_wp2_with fail
                go_region_law (first
                  | (refine step_call rfl 24 #[.tmp 130, .const (.string ⟨#[]⟩), .const (.string ⟨#[]⟩)] #[62, 9, 9] rfl #[.pointer (some ⟨pv, 0, none⟩), strV [], strV []] (by first | (simp [Act.eval]; done) | (simp [Act.eval]; rfl) | rfl) (by kernel_rfl) ((HRG.out _ Stay.drew).mono ?_); rintro y w9 ⟨v9, rfl, ho9, hs9⟩; obtain ⟨a9, n9, c9, rfl⟩ : ∃ a n c, v9 = .slice a n c := (by obtain ⟨a, c, e⟩ := ho9.form; exact ⟨a, _, c, e⟩); refine ⟨_, rfl, ?_⟩; have HS9 := Lib.hid (Stay.drew.trans hs9); have HO9 := Lib.hid ho9.ens; have q2b := HS9.out.cell q2 (fun x => x); clear ho9 hs9)
                  | (refine step_call rfl 17 #[.tmp 131, .tmp 135] #[34, 34] rfl #[.slice a9 n9 c9, .slice ua un uc] (by simp [Act.eval]) (by kernel_rfl) ((entries_eq w9 _ _ M M HO9.out (HEN.out.stay0 HS9.out)).mono ?_); rintro y w10 ⟨rfl, hs10⟩; refine ⟨_, rfl, ?_⟩; have HS10 := Lib.hid (HS9.out.trans hs10); clear hs10))
                all_goals
                  go_wp2
                  exact ⟨⟨kk + 1, by go_num, hkl, Lib.hid (HRZ.out.stay0 HS10.out)⟩, by simp [intOf]; omega⟩
              · obtain rfl : kk = kn2 := by omega
                go_wp2_with fail
                refine HK2.out _ _ ?_
                go_wp2
                exact ⟨⟨i + 1, kk, vc2, hc2, va2, ha2, rfl, rfl, by go_num, hlt, h40, by omega, HRZ⟩, by simp [intOf]; omega⟩
        · have h40f : ((i : Int) < 40) = False := by simp; omega
          have HSE := Lib.hid (show Stay (fun _ => False) w wr from HS4.out.andThen HSW.out (fun k hk h => by have := HS1.out.size; omega))
          have HF0 := Lib.hid (HR.out.fin (by omega))
          go_wp2_with fail
          go_loopw [15] (fun kv wz => ∃ kk : Nat, kv = .int .i64 (kk : Int) ∧ kk ≤ kn ∧ Hid (VFin w1.heap.size w4 wz x kn (.slice va kn vc) kk)) (fun kv _ => kn - (intOf kv).toNat)
          case atStart => exact ⟨0, rfl, Nat.zero_le _, HF0⟩
          case round =>
            obtain ⟨kk, rfl, hkk, HFZ⟩ := hrel
            by_cases hkl : kk < kn
            · obtain ⟨pv, gv, cv, e1, q1, q2⟩ := HFZ.out.one.leave hkl (by omega)
              cases e1
              have HQ2 := Lib.hid q2
              clear q2
              go_wp2_with fail
              refine HQ2.out.mono ?_
              rintro y w6 ⟨rfl, h6⟩
              obtain ⟨pv2, gv2, cv2, e2, r1, r2⟩ := h6.leave hkl (by omega)
              cases e2
              have HR2 := Lib.hid r2
              clear r2 h6 q1
              go_wp2_with fail
              refine HR2.out.mono ?_
              rintro y w7 ⟨rfl, h7⟩
              have HF7 := Lib.hid h7.fin
              clear h7 r1
              go_wp2
              exact ⟨⟨kk + 1, by go_num, hkl, HF7⟩, by simp [intOf]; omega⟩
            · obtain rfl : kk = kn := by omega
              obtain ⟨A, I, hi9, hw9, hs9⟩ := HFZ.out.done
              have HI9 := Lib.hid hi9
              have HW9 := Lib.hid hw9
              have HS9 := Lib.hid (show Stay (fun _ => False) w wr from HS4.out.andThen hs9 (fun k hk h => by have := HS1.out.size; omega))
              have HLV := Lib.hid (levels_ix wr x I hi9 (Nat.le_trans hw9.ln (by omega)))
              clear hi9 hw9 hs9
              go_wp2_with fail
              refine HLV.out.mono ?_
              rintro e w10 ⟨v10, rfl, ho10, hs10⟩
              obtain ⟨ln, hln⟩ : ∃ ln, ln = (lensL I.LS).length := ⟨_, rfl⟩
              obtain ⟨ua, uc, rfl⟩ : ∃ a c, v10 = .slice a ln c := by obtain ⟨a, c, e⟩ := ho10.form; exact ⟨a, c, by rw [e, hln]⟩
              have HO10 := Lib.hid ho10
              have HS10 := Lib.hid (HS9.out.trans hs10)
              have HI10 := Lib.hid (HI9.out.stay0 hs10)
              have HLN := Lib.hid hln
              have HLE := Lib.hid (show (lensL I.LS).sum = I.LS.flatten.length from by unfold lensL; rw [List.length_flatten])
              have HLT := Lib.hid (show I.LS.flatten.length ≤ 100 from Nat.le_trans HW9.out.tn (by omega))
              have hln2 : ln ≤ 100 := by rw [hln]; unfold lensL; rw [List.length_map]; exact Nat.le_trans HW9.out.ln (by omega)
              clear ho10 hs10 hln HLV
              go_wp2
              go_loopw [16, 18] (fun sv jv wz => ∃ (j s : Nat), jv = .int .i64 (j : Int) ∧ sv = .int .i64 (s : Int) ∧ j ≤ ln ∧ Hid (s = ((lensL I.LS).take j).sum) ∧ Hid (Stay (fun _ => False) w10 wz)) (fun _ jv _ => ln - (intOf jv).toNat)
              case atStart => exact ⟨0, 0, rfl, rfl, Nat.zero_le _, Lib.hid rfl, Lib.hid (Stay.refl _ _)⟩
              case round =>
                obtain ⟨j, s, rfl, rfl, hj, HSM, HZ⟩ := hrel
                have hs100 : s ≤ 100 := by
                  rw [HSM.out]
                  exact Nat.le_trans (take_sum_le _ _) (by rw [HLE.out]; exact HLT.out)
                by_cases hjl : j < ln
                · obtain ⟨d, hd⟩ : ∃ d, (lensL I.LS)[j]? = some d := ⟨_, List.getElem?_eq_getElem (by rw [← HLN.out]; exact hjl)⟩
                  obtain ⟨gx, xc', e, _, _⟩ := row_at HO10.out (by rw [← HLN.out]; exact Nat.lt_of_le_of_lt (Nat.zero_le j) hjl)
                  rw [← HLN.out] at e
                  cases e
                  have cx := IO.cell' HLN.out (HO10.out.stay0 HZ.out) hd
                  have HS2 := Lib.hid (show s + d = ((lensL I.LS).take (j + 1)).sum by rw [List.take_add_one, hd, HSM.out]; simp)
                  have hd100 : s + d ≤ 100 := by
                    rw [HS2.out]
                    exact Nat.le_trans (take_sum_le _ _) (by rw [HLE.out]; exact HLT.out)
                  clear hd
                  go_wp2
                  exact ⟨⟨j + 1, s + d, by go_num, by go_num, hjl, HS2, HZ⟩, by simp [intOf]; omega⟩
                · obtain rfl : j = ln := by omega
                  have hsm : s = I.LS.flatten.length := by rw [HSM.out, HLN.out, List.take_length, HLE.out]
                  have HI11 := Lib.hid (HI10.out.stay0 HZ.out)
                  have HHD := Lib.hid (held_ix _ x I HI11.out (by rw [wf_held HW9.out]; exact Nat.le_trans HLT.out (by decide)))
                  rw [wf_held HW9.out, ← hsm] at HHD
                  clear hsm
                  go_wp2_with fail
                  refine HHD.out.mono ?_
                  rintro e w12 ⟨rfl, hs12⟩
                  have HS12 := Lib.hid (HS10.out.trans (HZ.out.trans hs12))
                  clear hs12 HHD
                  go_wp2_with fail
                  refine (sure_any w12).mono ?_
                  rintro e w13 ⟨rfl, hs13⟩
                  have HS13 := Lib.hid (HS12.out.trans hs13)
                  clear hs13
                  go_wp2
                  go_ret
                  exact ⟨rfl, HS13.out⟩
      · have hinf : ((i : Int) < (n : Int)) = False := by simp; omega
        have HSE := Lib.hid (show Stay (fun _ => False) w wr from HS4.out.andThen HSW.out (fun k hk h => by have := HS1.out.size; omega))
        have HF0 := Lib.hid (HR.out.fin (by omega))
        go_wp2_with fail
        go_loopw [15] (fun kv wz => ∃ kk : Nat, kv = .int .i64 (kk : Int) ∧ kk ≤ kn ∧ Hid (VFin w1.heap.size w4 wz x kn (.slice va kn vc) kk)) (fun kv _ => kn - (intOf kv).toNat)
        case atStart => exact ⟨0, rfl, Nat.zero_le _, HF0⟩
        case round =>
          obtain ⟨kk, rfl, hkk, HFZ⟩ := hrel
          by_cases hkl : kk < kn
          · obtain ⟨pv, gv, cv, e1, q1, q2⟩ := HFZ.out.one.leave hkl (by omega)
            cases e1
            have HQ2 := Lib.hid q2
            clear q2
            go_wp2_with fail
            refine HQ2.out.mono ?_
            rintro y w6 ⟨rfl, h6⟩
            obtain ⟨pv2, gv2, cv2, e2, r1, r2⟩ := h6.leave hkl (by omega)
            cases e2
            have HR2 := Lib.hid r2
            clear r2 h6 q1
            go_wp2_with fail
            refine HR2.out.mono ?_
            rintro y w7 ⟨rfl, h7⟩
            have HF7 := Lib.hid h7.fin
            clear h7 r1
            go_wp2
            exact ⟨⟨kk + 1, by go_num, hkl, HF7⟩, by simp [intOf]; omega⟩
          · obtain rfl : kk = kn := by omega
            obtain ⟨A, I, hi9, hw9, hs9⟩ := HFZ.out.done
            have HI9 := Lib.hid hi9
            have HW9 := Lib.hid hw9
            have HS9 := Lib.hid (show Stay (fun _ => False) w wr from HS4.out.andThen hs9 (fun k hk h => by have := HS1.out.size; omega))
            have HLV := Lib.hid (levels_ix wr x I hi9 (Nat.le_trans hw9.ln (by omega)))
            clear hi9 hw9 hs9
            go_wp2_with fail
            refine HLV.out.mono ?_
            rintro e w10 ⟨v10, rfl, ho10, hs10⟩
            obtain ⟨ln, hln⟩ : ∃ ln, ln = (lensL I.LS).length := ⟨_, rfl⟩
            obtain ⟨ua, uc, rfl⟩ : ∃ a c, v10 = .slice a ln c := by obtain ⟨a, c, e⟩ := ho10.form; exact ⟨a, c, by rw [e, hln]⟩
            have HO10 := Lib.hid ho10
            have HS10 := Lib.hid (HS9.out.trans hs10)
            have HI10 := Lib.hid (HI9.out.stay0 hs10)
            have HLN := Lib.hid hln
            have HLE := Lib.hid (show (lensL I.LS).sum = I.LS.flatten.length from by unfold lensL; rw [List.length_flatten])
            have HLT := Lib.hid (show I.LS.flatten.length ≤ 100 from Nat.le_trans HW9.out.tn (by omega))
            have hln2 : ln ≤ 100 := by rw [hln]; unfold lensL; rw [List.length_map]; exact Nat.le_trans HW9.out.ln (by omega)
            clear ho10 hs10 hln HLV
            go_wp2
            go_loopw [16, 18] (fun sv jv wz => ∃ (j s : Nat), jv = .int .i64 (j : Int) ∧ sv = .int .i64 (s : Int) ∧ j ≤ ln ∧ Hid (s = ((lensL I.LS).take j).sum) ∧ Hid (Stay (fun _ => False) w10 wz)) (fun _ jv _ => ln - (intOf jv).toNat)
            case atStart => exact ⟨0, 0, rfl, rfl, Nat.zero_le _, Lib.hid rfl, Lib.hid (Stay.refl _ _)⟩
            case round =>
              obtain ⟨j, s, rfl, rfl, hj, HSM, HZ⟩ := hrel
              have hs100 : s ≤ 100 := by
                rw [HSM.out]
                exact Nat.le_trans (take_sum_le _ _) (by rw [HLE.out]; exact HLT.out)
              by_cases hjl : j < ln
              · obtain ⟨d, hd⟩ : ∃ d, (lensL I.LS)[j]? = some d := ⟨_, List.getElem?_eq_getElem (by rw [← HLN.out]; exact hjl)⟩
                obtain ⟨gx, xc', e, _, _⟩ := row_at HO10.out (by rw [← HLN.out]; exact Nat.lt_of_le_of_lt (Nat.zero_le j) hjl)
                rw [← HLN.out] at e
                cases e
                have cx := IO.cell' HLN.out (HO10.out.stay0 HZ.out) hd
                have HS2 := Lib.hid (show s + d = ((lensL I.LS).take (j + 1)).sum by rw [List.take_add_one, hd, HSM.out]; simp)
                have hd100 : s + d ≤ 100 := by
                  rw [HS2.out]
                  exact Nat.le_trans (take_sum_le _ _) (by rw [HLE.out]; exact HLT.out)
                clear hd
                go_wp2
                exact ⟨⟨j + 1, s + d, by go_num, by go_num, hjl, HS2, HZ⟩, by simp [intOf]; omega⟩
              · obtain rfl : j = ln := by omega
                have hsm : s = I.LS.flatten.length := by rw [HSM.out, HLN.out, List.take_length, HLE.out]
                have HI11 := Lib.hid (HI10.out.stay0 HZ.out)
                have HHD := Lib.hid (held_ix _ x I HI11.out (by rw [wf_held HW9.out]; exact Nat.le_trans HLT.out (by decide)))
                rw [wf_held HW9.out, ← hsm] at HHD
                clear hsm
                go_wp2_with fail
                refine HHD.out.mono ?_
                rintro e w12 ⟨rfl, hs12⟩
                have HS12 := Lib.hid (HS10.out.trans (HZ.out.trans hs12))
                clear hs12 HHD
                go_wp2_with fail
                refine (sure_any w12).mono ?_
                rintro e w13 ⟨rfl, hs13⟩
                have HS13 := Lib.hid (HS12.out.trans hs13)
                clear hs13
                go_wp2
                go_ret
                exact ⟨rfl, HS13.out⟩
end Go.Proofs.YtljlfdhjolcnaaaGreat.Ix
