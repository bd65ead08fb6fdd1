/-
  IndexFlushes: the walk.
-/
import Derived.Test.YtljlfdhjolcnaaaGreatDoorIxLf
import Derived.Test.YtljlfdhjolcnaaaGreatDoorErrPk
namespace Go.Proofs.YtljlfdhjolcnaaaGreatDoor.Ix
open Go.RowKit Go.Maps Me Mg Bo
set_option maxRecDepth 100000
set_option linter.unusedVariables false
set_option linter.unusedSimpArgs false

set_option maxHeartbeats 8000000 in
theorem flushes_walk (w : World) (xs : Value) (L : List Ac) (ka kb : List UInt8) (hx : AcS w xs L) (hk : ∀ t ∈ L, AcOk t) (hg : ErrCell w) :
    Calls Tryz.prog 4 #[xs, strV ka, strV kb] w fun e w' => e = .returned (.bool true) ∧ Stay (fun _ => False) w w' := by
  obtain ⟨n, hn⟩ : ∃ n, n = L.length := ⟨_, rfl⟩
  obtain ⟨xa, xc, rfl⟩ : ∃ a c, xs = .slice a n c := by obtain ⟨p, q, e, _⟩ := hx; exact ⟨p, q, by rw [e, hn]⟩
  have hn1 : n ≤ 9223372036854775807 := by obtain ⟨_, _, e, h1, h2, _⟩ := hx; rw [hn]; exact Nat.le_trans h1 h2
  have HN := Lib.hid hn
  have HX := Lib.hid hx
  have HK := Lib.hid hk
  have HG := Lib.hid hg
  have HN1 := Lib.hid (fun W => new_any True W 1000 16 3 8 ⟨by decide, by decide, by decide, by decide, by decide, by decide, by decide, by decide⟩)
  have HN2 := Lib.hid (fun W => new_any True W 1 16 1 1 ⟨by decide, by decide, by decide, by decide, by decide, by decide, by decide, by decide⟩)
  unfold cfgV at HN1 HN2
  clear hx hk hn hg
  go_enter Tryz.func4, Tryz.ntmps4
  go_wp2_with fail
  refine (HN1.out w).mono ?_
  rintro e w1 ⟨⟨x, rfl, hi1⟩, hs1⟩
  have HI1 := Lib.hid (show IxAt (fun k => w.heap.size ≤ k ∧ k < w1.heap.size) w1 x (freshI True 1000 16 3 8) from hi1.mono (fun k hk h => ⟨h, hk⟩))
  have HS1 := Lib.hid hs1
  clear hi1 hs1 HN1
  go_wp2_with fail
  refine (HN2.out w1).mono ?_
  rintro e w2 ⟨⟨y, rfl, hi2⟩, hs2⟩
  have HS2 := Lib.hid (HS1.out.trans hs2)
  have HF2 := Lib.hid (show FRel w.heap.size w2 w2 x y 0 from FRel.start (HI1.out.stay0 hs2) (hi2.mono (A' := fun k => w1.heap.size ≤ k ∧ k < w2.heap.size) (fun k hk h => ⟨h, hk⟩)) (fun k h1 h2 => by omega) (fun k hk => by
    have h1 := HS1.out.size
    have h2 := hs2.size
    rcases hk with hk | hk <;> omega) HS2.out.size (Wf.fresh _ _ _ _ _) (Wf.fresh _ _ _ _ _) trivial trivial rfl rfl)
  have HX2 := Lib.hid (HX.out.stay0 HS2.out)
  have HV := Lib.hid (heavy_any w2 _ L HX2.out HK.out)
  clear hi2 hs2 HN2
  go_wp2_with fail
  refine HV.out.mono ?_
  rintro e w4 ⟨⟨b, rfl⟩, hs4⟩
  have HS4 := Lib.hid (HS2.out.trans hs4)
  have HF4 := Lib.hid (show FRel w.heap.size w4 w4 x y 0 from by
    obtain ⟨A, M, h1, h2, h3, _⟩ := HF2.out.stay0 hs4
    exact ⟨A, M, h1, h2, h3, Stay.refl _ _⟩)
  clear hs4 HV HF2 HI1 HX2
  cases b with
  | true =>
    go_wp2_with fail
    refine (sure_any w4).mono ?_
    rintro e w5 ⟨rfl, hs5⟩
    have HS5 := Lib.hid (HS4.out.trans hs5)
    clear hs5
    go_wp2
    go_ret
    exact ⟨rfl, HS5.out⟩
  | false =>
    go_wp2
    go_loopw [11] (fun iv wr => ∃ i : Nat, iv = .int .i64 (i : Int) ∧ i ≤ n ∧ i ≤ 30 ∧ Hid (FRel w.heap.size w4 wr x y i)) (fun iv _ => n - (intOf iv).toNat)
    case atStart => exact ⟨0, rfl, Nat.zero_le _, Nat.zero_le _, HF4⟩
    case round =>
      obtain ⟨i, rfl, hi, hi30, HR⟩ := hrel
      have HSW := Lib.hid (show Stay (fun k => w.heap.size ≤ k) w4 wr from by
        obtain ⟨_, _, _, _, _, h⟩ := HR.out
        exact h)
      have HSE := Lib.hid (show Stay (fun _ => False) w wr from HS4.out.andThen HSW.out (fun k hk h => by omega))
      by_cases hlt : i < n
      · by_cases h30 : i < 30
        · have h30' : (i : Int) < 30 := by omega
          obtain ⟨t, ht⟩ : ∃ t, L[i]? = some t := ⟨_, List.getElem?_eq_getElem (by rw [← HN.out]; exact hlt)⟩
          obtain ⟨g2, o2, rfl, k0, k1, k2, k3⟩ := (HX.out.stay0 HSE.out).at ht
          have hok := HK.out t (List.mem_of_getElem? ht)
          have HOK := Lib.hid hok
          obtain ⟨kd, hkd⟩ : ∃ kd, kd = smallN t.kd 10 := ⟨_, rfl⟩
          have hkd10 : kd < 10 := by rw [hkd]; exact small_lt _ (by decide)
          have hkv : wrap64 ((IntKind.u64.wrap t.kd).tmod 10) = (kd : Int) := by
            rw [show (10 : Int) = ((10 : Nat) : Int) from rfl, small_mod _ (by decide), ← hkd, wrap_small (by omega) (by omega)]
          clear ht hok hkd
          refine wp_seq_k (fun K1 hk1 => ?_)
          have HK1 := Lib.hid hk1
          clear hk1
          go_wp2_with fail
          refine HK1.out _ _ ?_
          refine wp_seq_k (fun K2 hk2 => ?_)
          have HK2 := Lib.hid hk2
          clear hk2 HK1
          refine wp_block ?_
          refine wp_seq_k (fun K3 hk3 => ?_)
          have HK3 := Lib.hid hk3
          clear hk3
          go_wp2_with fail
          refine HK3.out _ _ ?_
          obtain ⟨A, M, hst, hA, hb, hs⟩ := HR.out
          have hsa : Stay (fun _ => False) wr (wr.alloc (.cells #[.int .i64 t.kd, .int .i64 t.n, .string ⟨t.key.toArray⟩, .string ⟨t.val.toArray⟩] 65)) := Stay.alloc _ _
          have hbx := heap_alloc_new wr (.cells #[.int .i64 t.kd, .int .i64 t.n, .string ⟨t.key.toArray⟩, .string ⟨t.val.toArray⟩] 65)
          obtain ⟨w5, hw5⟩ : ∃ w5, wr.alloc (.cells #[.int .i64 t.kd, .int .i64 t.n, .string ⟨t.key.toArray⟩, .string ⟨t.val.toArray⟩] 65) = w5 := ⟨_, rfl⟩
          rw [hw5] at hsa hbx ⊢
          obtain ⟨bx, hbxe⟩ : ∃ bx, bx = wr.heap.size := ⟨_, rfl⟩
          rw [← hbxe] at hbx ⊢
          have HNB := Lib.hid (show ¬ A bx from fun h => by have := (hA _ h).2; omega)
          have HNX := Lib.hid (show ¬ (A bx ∨ w5.drew.heap.size ≤ bx) from fun h => h.elim (fun h => by have := (hA _ h).2; omega) (fun h => by have h1 := (Array.getElem?_eq_some_iff.1 hbx).1; have h2 : w5.drew.heap.size = w5.heap.size := rfl; omega))
          have hst5 := hst.shift hsa (fun k hk => (hA k hk).2)
          have HR5 := Lib.hid (HR.out.stay0 hsa)
          have HA5 := Lib.hid (show (∀ k, A k → w.heap.size ≤ k ∧ k < w5.heap.size) ∧ w.heap.size ≤ w5.heap.size ∧ Stay (fun k => w.heap.size ≤ k) w4 w5 from ⟨fun k hk => ⟨(hA k hk).1, Nat.lt_of_lt_of_le (hA k hk).2 hsa.size⟩, Nat.le_trans hb hsa.size, hs.trans (hsa.mono (fun _ x => x.elim))⟩)
          have q0 : w5.cell? ⟨bx, 0, none⟩ = some (.int .i64 t.kd) := by rw [cell_of_row w5 bx 0 _ _ _ hbx]; rfl
          have q2 : w5.cell? ⟨bx, 2, none⟩ = some (strV t.key) := by rw [cell_of_row w5 bx 2 _ _ _ hbx]; rfl
          have q3 : w5.cell? ⟨bx, 3, none⟩ = some (strV t.val) := by rw [cell_of_row w5 bx 3 _ _ _ hbx]; rfl
          clear hst hA hb hs hsa hbx hw5 hbxe k0 k1 k2 k3
          refine wp_seq_k (fun K5 hk5 => ?_)
          have HK5 := Lib.hid hk5
          clear hk5 HK3
          go_wp2_with fail
          refine HK5.out _ _ ?_
          refine wp_seq_k (fun K4 hk4 => ?_)
          have HK4 := Lib.hid hk4
          clear hk4 HK5
          obtain ⟨K9, hK9⟩ : ∃ K9 : Act → World → Prop, K9 = fun a9 W => ∃ (ev : Value) (c : Nat), a9 = { tmps := List.toArray (.slice (some ⟨g2, o2, none⟩) n xc :: strV ka :: strV kb :: undef :: undef :: undef :: a9.tmps.getD 6 undef :: .pointer (some ⟨x, 0, none⟩) :: .nilIface :: .pointer (some ⟨y, 0, none⟩) :: .nilIface :: .int .i64 (i : Int) :: .pointer (some ⟨bx, 0, none⟩) :: ev :: ev :: a9.tmps.getD 15 undef :: a9.tmps.getD 16 undef :: a9.tmps.getD 17 undef :: a9.tmps.getD 18 undef :: .tuple #[.pointer (some ⟨x, 0, none⟩), .nilIface] :: .agg #[.int .i64 1000, .int .i64 16, .int .i64 3, .int .i64 8] :: .tuple #[.pointer (some ⟨x, 0, none⟩), .nilIface] :: .pointer (some ⟨x, 0, none⟩) :: .nilIface :: .tuple #[.pointer (some ⟨y, 0, none⟩), .nilIface] :: .agg #[.int .i64 1, .int .i64 16, .int .i64 1, .int .i64 1] :: .tuple #[.pointer (some ⟨y, 0, none⟩), .nilIface] :: .pointer (some ⟨y, 0, none⟩) :: .nilIface :: .nilIface :: .bool false :: .bool false :: .nilIface :: .bool false :: .bool false :: .bool false :: .pointer (some ⟨x, 0, none⟩) :: .bool false :: .bool false :: .bool false :: .pointer (some ⟨y, 0, none⟩) :: .bool false :: .bool false :: .bool false :: .slice (some ⟨g2, o2, none⟩) n xc :: .bool false :: .bool false :: undef :: undef :: undef :: undef :: undef :: undef :: undef :: undef :: undef :: a9.tmps.getD 56 undef :: a9.tmps.getD 57 undef :: a9.tmps.getD 58 undef :: a9.tmps.getD 59 undef :: a9.tmps.getD 60 undef :: a9.tmps.getD 61 undef :: a9.tmps.getD 62 undef :: a9.tmps.getD 63 undef :: a9.tmps.getD 64 undef :: a9.tmps.getD 65 undef :: a9.tmps.getD 66 undef :: a9.tmps.getD 67 undef :: a9.tmps.getD 68 undef :: a9.tmps.getD 69 undef :: a9.tmps.getD 70 undef :: a9.tmps.getD 71 undef :: a9.tmps.getD 72 undef :: a9.tmps.getD 73 undef :: a9.tmps.getD 74 undef :: a9.tmps.getD 75 undef :: a9.tmps.getD 76 undef :: a9.tmps.getD 77 undef :: a9.tmps.getD 78 undef :: a9.tmps.getD 79 undef :: a9.tmps.getD 80 undef :: a9.tmps.getD 81 undef :: a9.tmps.getD 82 undef :: a9.tmps.getD 83 undef :: a9.tmps.getD 84 undef :: a9.tmps.getD 85 undef :: a9.tmps.getD 86 undef :: a9.tmps.getD 87 undef :: a9.tmps.getD 88 undef :: a9.tmps.getD 89 undef :: a9.tmps.getD 90 undef :: a9.tmps.getD 91 undef :: a9.tmps.getD 92 undef :: a9.tmps.getD 93 undef :: a9.tmps.getD 94 undef :: a9.tmps.getD 95 undef :: a9.tmps.getD 96 undef :: a9.tmps.getD 97 undef :: a9.tmps.getD 98 undef :: a9.tmps.getD 99 undef :: a9.tmps.getD 100 undef :: a9.tmps.getD 101 undef :: a9.tmps.getD 102 undef :: a9.tmps.getD 103 undef :: a9.tmps.getD 104 undef :: a9.tmps.getD 105 undef :: a9.tmps.getD 106 undef :: a9.tmps.getD 107 undef :: a9.tmps.getD 108 undef :: a9.tmps.getD 109 undef :: a9.tmps.getD 110 undef :: a9.tmps.getD 111 undef :: a9.tmps.getD 112 undef :: a9.tmps.getD 113 undef :: a9.tmps.getD 114 undef :: a9.tmps.getD 115 undef :: a9.tmps.getD 116 undef :: a9.tmps.getD 117 undef :: a9.tmps.getD 118 undef :: a9.tmps.getD 119 undef :: a9.tmps.getD 120 undef :: a9.tmps.getD 121 undef :: a9.tmps.getD 122 undef :: a9.tmps.getD 123 undef :: a9.tmps.getD 124 undef :: a9.tmps.getD 125 undef :: a9.tmps.getD 126 undef :: a9.tmps.getD 127 undef :: a9.tmps.getD 128 undef :: a9.tmps.getD 129 undef :: undef :: undef :: undef :: undef :: undef :: undef :: undef :: undef :: undef :: undef :: undef :: undef :: []), defers := [] } ∧ (ev = (if c = 0 then .nilIface else .iface 73 (.int .i64 (c : Int))) ∧ FRel w.heap.size w4 W x y (i + 1) ∧ W.cell? ⟨bx, 2, none⟩ = some (strV t.key)) := ⟨_, rfl⟩
          have HK9 := Lib.hid hK9
          clear hK9
          refine wp_mid (K2 := K9) (fun a9 W hk9 => HK4.out _ _ ?next) ?region
          case region =>
            --[[
            have hkc : kd = 3 ∨ kd = 4 ∨ (kd ≠ 3 ∧ kd ≠ 4) := by omega
            rcases hkc with rfl | rfl | hko
            · by_cases hlong : 512 < t.key.length
              · have HLG := Lib.hid (fun (z : Nat) W => drop_long W z t.key hlong HOK.out.key)
                go_wp2_with fail
                refine wp_region_held (S := Stay (fun k => A k ∨ w5.drew.heap.size ≤ k) w5.drew) (by kernel_rfl) ?_
                change wpAnyH _ _ _ _ _ _ _ _ (World.drew _)
                have hst : Stay (fun k => A k ∨ w5.drew.heap.size ≤ k) w5 w5.drew := Stay.drew
                refine wpAnyH_takeL (i := 0) (v := .pointer (some ⟨x, 0, none⟩)) #[true, false, false, false, false, false, false, false, false, false] rfl (by kernel_rfl) (by kernel_rfl) (by kernel_rfl) (fun _ _ _ h => h) (by kernel_rfl) (Stay.refl _ _) (Or.inl ⟨by rfl, fun W hW => ?_⟩) ?_
                · go_simp
                conv => arg 8; simp [Act.put]
                refine wpAnyH_takeL (i := 1) (v := .pointer (some ⟨bx, 2, none⟩)) #[true, true, false, false, false, false, false, false, false, false] rfl (by kernel_rfl) (by kernel_rfl) (by kernel_rfl) (fun _ _ _ h => h) (by kernel_rfl) (Stay.refl _ _) (Or.inl ⟨by rfl, fun W hW => ?_⟩) ?_
                · go_simp
                conv => arg 8; simp [Act.put]
                refine wpAnyH_takeL (i := 2) (v := .string ⟨t.key.toArray⟩) #[true, true, true, false, false, false, false, false, false, false] rfl (by kernel_rfl) (by kernel_rfl) (by kernel_rfl) (fun _ _ _ h => h) (by kernel_rfl) (Stay.refl _ _) (Or.inl ⟨by rfl, fun W hW => ?_⟩) ?_
                · have r2 := (hst.trans hW).cell q2 HNX.out
                  go_simp
                conv => arg 8; simp [Act.put]
                refine wpAnyH_takeL (i := 4) (v := .pointer (some ⟨y, 0, none⟩)) #[true, true, true, false, true, false, false, false, false, false] rfl (by kernel_rfl) (by kernel_rfl) (by kernel_rfl) (fun _ _ _ h => h) (by kernel_rfl) (Stay.refl _ _) (Or.inl ⟨by rfl, fun W hW => ?_⟩) ?_
                · go_simp
                conv => arg 8; simp [Act.put]
                refine wpAnyH_takeL (i := 5) (v := .pointer (some ⟨bx, 2, none⟩)) #[true, true, true, false, true, true, false, false, false, false] rfl (by kernel_rfl) (by kernel_rfl) (by kernel_rfl) (fun _ _ _ h => h) (by kernel_rfl) (Stay.refl _ _) (Or.inl ⟨by rfl, fun W hW => ?_⟩) ?_
                · go_simp
                conv => arg 8; simp [Act.put]
                refine wpAnyH_takeL (i := 6) (v := .string ⟨t.key.toArray⟩) #[true, true, true, false, true, true, true, false, false, false] rfl (by kernel_rfl) (by kernel_rfl) (by kernel_rfl) (fun _ _ _ h => h) (by kernel_rfl) (Stay.refl _ _) (Or.inl ⟨by rfl, fun W hW => ?_⟩) ?_
                · have r2 := (hst.trans hW).cell q2 HNX.out
                  go_simp
                conv => arg 8; simp [Act.put]
                refine wpAnyH_one #[true, true, true, true, true, true, true, false, false, false] (i := 3) rfl (by kernel_rfl) (by kernel_rfl) (fun K hK => ?_)
                go_simp
                go_wp2_with (go_at_call 28; refine (HLG.out x _).mono ?_; rintro e z1 ⟨rfl, s0⟩; have s : Stay (fun k => A k ∨ w5.drew.heap.size ≤ k) w5.drew z1 := s0.mono (fun _ x => x.elim); have HS1 := Lib.hid (Stay.drew.trans s0))
                replace hst := hst.trans s
                refine hK _ _ s ?_
                clear hK
                conv => arg 8; simp [Act.put]
                refine wpAnyH_narrow (S' := Stay (fun k => A k ∨ w5.drew.heap.size ≤ k) z1) (fun _ h => s.trans h) _ _ _ _ ?_
                clear s
                refine wpAnyH_one #[true, true, true, true, true, true, true, true, false, false] (i := 7) rfl (by kernel_rfl) (by kernel_rfl) (fun K hK => ?_)
                go_simp
                go_wp2_with (go_at_call 28; refine (HLG.out y _).mono ?_; rintro e z2 ⟨rfl, s0⟩; have s : Stay (fun k => A k ∨ w5.drew.heap.size ≤ k) z1 z2 := s0.mono (fun _ x => x.elim); have HSS := Lib.hid (HS1.out.trans s0))
                replace hst := hst.trans s
                refine hK _ _ s ?_
                clear hK
                conv => arg 8; simp [Act.put]
                refine wpAnyH_narrow (S' := Stay (fun k => A k ∨ w5.drew.heap.size ≤ k) z2) (fun _ h => s.trans h) _ _ _ _ ?_
                clear s
                refine wpAnyH_takeL (i := 8) (v := .iface 73 (.int .i64 2)) #[true, true, true, true, true, true, true, true, true, false] rfl (by kernel_rfl) (by kernel_rfl) (by kernel_rfl) (fun _ _ _ h => h) (by kernel_rfl) (Stay.refl _ _) (Or.inl ⟨by rfl, fun W hW => ?_⟩) ?_
                · go_simp
                conv => arg 8; simp [Act.put]
                refine wpAnyH_takeL (i := 9) (v := .iface 73 (.int .i64 2)) #[true, true, true, true, true, true, true, true, true, true] rfl (by kernel_rfl) (by kernel_rfl) (by kernel_rfl) (fun _ _ _ h => h) (by kernel_rfl) (Stay.refl _ _) (Or.inl ⟨by rfl, fun W hW => ?_⟩) ?_
                · go_simp
                conv => arg 8; simp [Act.put]
                refine wpAnyH_done (by kernel_rfl) ?_ _
                go_wp2
                rw [HK9.out]
                exact ⟨_, 2, rfl, rfl, (HR5.out.stay0 HSS.out).up, HSS.out.cell q2 (fun x => x)⟩
              · have HF0 := Lib.hid (show FSt A w5.drew w5.drew x y M (putL M ⟨t.key, [], true⟩) i false false from hst5.shift Stay.drew (fun k hk => (HA5.out.1 k hk).2))
                go_wp2_with fail
                refine wp_region_held (S := Stay (fun k => A k ∨ w5.drew.heap.size ≤ k) w5.drew) (by kernel_rfl) ?_
                change wpAnyH _ _ _ _ _ _ _ _ (World.drew _)
                have hst : Stay (fun k => A k ∨ w5.drew.heap.size ≤ k) w5 w5.drew := Stay.drew
                refine wpAnyH_takeL (i := 0) (v := .pointer (some ⟨x, 0, none⟩)) #[true, false, false, false, false, false, false, false, false, false] rfl (by kernel_rfl) (by kernel_rfl) (by kernel_rfl) (fun _ _ _ h => h) (by kernel_rfl) (Stay.refl _ _) (Or.inl ⟨by rfl, fun W hW => ?_⟩) ?_
                · go_simp
                conv => arg 8; simp [Act.put]
                refine wpAnyH_takeL (i := 1) (v := .pointer (some ⟨bx, 2, none⟩)) #[true, true, false, false, false, false, false, false, false, false] rfl (by kernel_rfl) (by kernel_rfl) (by kernel_rfl) (fun _ _ _ h => h) (by kernel_rfl) (Stay.refl _ _) (Or.inl ⟨by rfl, fun W hW => ?_⟩) ?_
                · go_simp
                conv => arg 8; simp [Act.put]
                refine wpAnyH_takeL (i := 2) (v := .string ⟨t.key.toArray⟩) #[true, true, true, false, false, false, false, false, false, false] rfl (by kernel_rfl) (by kernel_rfl) (by kernel_rfl) (fun _ _ _ h => h) (by kernel_rfl) (Stay.refl _ _) (Or.inl ⟨by rfl, fun W hW => ?_⟩) ?_
                · have r2 := (hst.trans hW).cell q2 HNX.out
                  go_simp
                conv => arg 8; simp [Act.put]
                refine wpAnyH_takeL (i := 4) (v := .pointer (some ⟨y, 0, none⟩)) #[true, true, true, false, true, false, false, false, false, false] rfl (by kernel_rfl) (by kernel_rfl) (by kernel_rfl) (fun _ _ _ h => h) (by kernel_rfl) (Stay.refl _ _) (Or.inl ⟨by rfl, fun W hW => ?_⟩) ?_
                · go_simp
                conv => arg 8; simp [Act.put]
                refine wpAnyH_takeL (i := 5) (v := .pointer (some ⟨bx, 2, none⟩)) #[true, true, true, false, true, true, false, false, false, false] rfl (by kernel_rfl) (by kernel_rfl) (by kernel_rfl) (fun _ _ _ h => h) (by kernel_rfl) (Stay.refl _ _) (Or.inl ⟨by rfl, fun W hW => ?_⟩) ?_
                · go_simp
                conv => arg 8; simp [Act.put]
                refine wpAnyH_takeL (i := 6) (v := .string ⟨t.key.toArray⟩) #[true, true, true, false, true, true, true, false, false, false] rfl (by kernel_rfl) (by kernel_rfl) (by kernel_rfl) (fun _ _ _ h => h) (by kernel_rfl) (Stay.refl _ _) (Or.inl ⟨by rfl, fun W hW => ?_⟩) ?_
                · have r2 := (hst.trans hW).cell q2 HNX.out
                  go_simp
                conv => arg 8; simp [Act.put]
                refine wpAnyH_one #[true, true, true, true, true, true, true, false, false, false] (i := 3) rfl (by kernel_rfl) (by kernel_rfl) (fun K hK => ?_)
                go_simp
                go_wp2_with (go_at_call 28; refine (FSt.drop1 t.key HF0.out (by omega) HOK.out.key hlong).mono ?_; rintro e z1 ⟨rfl, hf, s⟩; have HFX := Lib.hid hf)
                replace hst := hst.trans s
                refine hK _ _ s ?_
                clear hK
                conv => arg 8; simp [Act.put]
                refine wpAnyH_narrow (S' := Stay (fun k => A k ∨ w5.drew.heap.size ≤ k) z1) (fun _ h => s.trans h) _ _ _ _ ?_
                clear s
                refine wpAnyH_one #[true, true, true, true, true, true, true, true, false, false] (i := 7) rfl (by kernel_rfl) (by kernel_rfl) (fun K hK => ?_)
                go_simp
                go_wp2_with (go_at_call 28; refine (FSt.drop2 t.key HFX.out (by omega) HOK.out.key hlong).mono ?_; rintro e z2 ⟨rfl, hf, s⟩; have HFF := Lib.hid hf)
                replace hst := hst.trans s
                refine hK _ _ s ?_
                clear hK
                conv => arg 8; simp [Act.put]
                refine wpAnyH_narrow (S' := Stay (fun k => A k ∨ w5.drew.heap.size ≤ k) z2) (fun _ h => s.trans h) _ _ _ _ ?_
                clear s
                refine wpAnyH_takeL (i := 8) (v := .nilIface) #[true, true, true, true, true, true, true, true, true, false] rfl (by kernel_rfl) (by kernel_rfl) (by kernel_rfl) (fun _ _ _ h => h) (by kernel_rfl) (Stay.refl _ _) (Or.inl ⟨by rfl, fun W hW => ?_⟩) ?_
                · go_simp
                conv => arg 8; simp [Act.put]
                refine wpAnyH_takeL (i := 9) (v := .nilIface) #[true, true, true, true, true, true, true, true, true, true] rfl (by kernel_rfl) (by kernel_rfl) (by kernel_rfl) (fun _ _ _ h => h) (by kernel_rfl) (Stay.refl _ _) (Or.inl ⟨by rfl, fun W hW => ?_⟩) ?_
                · go_simp
                conv => arg 8; simp [Act.put]
                refine wpAnyH_done (by kernel_rfl) ?_ _
                go_wp2
                rw [HK9.out]
                exact ⟨_, 0, rfl, rfl, FRel.both HFF.out HA5.out.1 HA5.out.2.1 (HA5.out.2.2.trans Stay.drew), (Stay.drew.trans HFF.out.stay).cell q2 HNB.out⟩
            · go_wp2_with fail
              refine (FSt.flush hst5 (by omega) HA5.out.1 HA5.out.2.1 HA5.out.2.2).mono ?_
              rintro z9 w9 ⟨rfl, hr9, hs9⟩
              have c2 := hs9.cell q2 HNB.out
              go_wp2
              rw [HK9.out]
              exact ⟨_, 0, rfl, rfl, hr9, c2⟩
            · have hk3 : ((kd : Int) == 3) = false := by rw [beq_eq_false_iff_ne]; omega
              have hk4 : ((kd : Int) == 4) = false := by rw [beq_eq_false_iff_ne]; omega
              by_cases hlong : 512 < t.key.length + t.val.length
              · have HLG := Lib.hid (fun (z : Nat) W => put_long W z t.key t.val hlong HOK.out.key HOK.out.val)
                go_wp2_with fail
                refine wp_region_held (S := Stay (fun k => A k ∨ w5.drew.heap.size ≤ k) w5.drew) (by kernel_rfl) ?_
                change wpAnyH _ _ _ _ _ _ _ _ (World.drew _)
                have hst : Stay (fun k => A k ∨ w5.drew.heap.size ≤ k) w5 w5.drew := Stay.drew
                refine wpAnyH_takeL (i := 0) (v := .pointer (some ⟨x, 0, none⟩)) #[true, false, false, false, false, false, false, false, false, false, false, false, false, false] rfl (by kernel_rfl) (by kernel_rfl) (by kernel_rfl) (fun _ _ _ h => h) (by kernel_rfl) (Stay.refl _ _) (Or.inl ⟨by rfl, fun W hW => ?_⟩) ?_
                · go_simp
                conv => arg 8; simp [Act.put]
                refine wpAnyH_takeL (i := 1) (v := .pointer (some ⟨bx, 2, none⟩)) #[true, true, false, false, false, false, false, false, false, false, false, false, false, false] rfl (by kernel_rfl) (by kernel_rfl) (by kernel_rfl) (fun _ _ _ h => h) (by kernel_rfl) (Stay.refl _ _) (Or.inl ⟨by rfl, fun W hW => ?_⟩) ?_
                · go_simp
                conv => arg 8; simp [Act.put]
                refine wpAnyH_takeL (i := 2) (v := .string ⟨t.key.toArray⟩) #[true, true, true, false, false, false, false, false, false, false, false, false, false, false] rfl (by kernel_rfl) (by kernel_rfl) (by kernel_rfl) (fun _ _ _ h => h) (by kernel_rfl) (Stay.refl _ _) (Or.inl ⟨by rfl, fun W hW => ?_⟩) ?_
                · have r2 := (hst.trans hW).cell q2 HNX.out
                  go_simp
                conv => arg 8; simp [Act.put]
                refine wpAnyH_takeL (i := 3) (v := .pointer (some ⟨bx, 3, none⟩)) #[true, true, true, true, false, false, false, false, false, false, false, false, false, false] rfl (by kernel_rfl) (by kernel_rfl) (by kernel_rfl) (fun _ _ _ h => h) (by kernel_rfl) (Stay.refl _ _) (Or.inl ⟨by rfl, fun W hW => ?_⟩) ?_
                · go_simp
                conv => arg 8; simp [Act.put]
                refine wpAnyH_takeL (i := 4) (v := .string ⟨t.val.toArray⟩) #[true, true, true, true, true, false, false, false, false, false, false, false, false, false] rfl (by kernel_rfl) (by kernel_rfl) (by kernel_rfl) (fun _ _ _ h => h) (by kernel_rfl) (Stay.refl _ _) (Or.inl ⟨by rfl, fun W hW => ?_⟩) ?_
                · have r3 := (hst.trans hW).cell q3 HNX.out
                  go_simp
                conv => arg 8; simp [Act.put]
                refine wpAnyH_takeL (i := 6) (v := .pointer (some ⟨y, 0, none⟩)) #[true, true, true, true, true, false, true, false, false, false, false, false, false, false] rfl (by kernel_rfl) (by kernel_rfl) (by kernel_rfl) (fun _ _ _ h => h) (by kernel_rfl) (Stay.refl _ _) (Or.inl ⟨by rfl, fun W hW => ?_⟩) ?_
                · go_simp
                conv => arg 8; simp [Act.put]
                refine wpAnyH_takeL (i := 7) (v := .pointer (some ⟨bx, 2, none⟩)) #[true, true, true, true, true, false, true, true, false, false, false, false, false, false] rfl (by kernel_rfl) (by kernel_rfl) (by kernel_rfl) (fun _ _ _ h => h) (by kernel_rfl) (Stay.refl _ _) (Or.inl ⟨by rfl, fun W hW => ?_⟩) ?_
                · go_simp
                conv => arg 8; simp [Act.put]
                refine wpAnyH_takeL (i := 8) (v := .string ⟨t.key.toArray⟩) #[true, true, true, true, true, false, true, true, true, false, false, false, false, false] rfl (by kernel_rfl) (by kernel_rfl) (by kernel_rfl) (fun _ _ _ h => h) (by kernel_rfl) (Stay.refl _ _) (Or.inl ⟨by rfl, fun W hW => ?_⟩) ?_
                · have r2 := (hst.trans hW).cell q2 HNX.out
                  go_simp
                conv => arg 8; simp [Act.put]
                refine wpAnyH_takeL (i := 9) (v := .pointer (some ⟨bx, 3, none⟩)) #[true, true, true, true, true, false, true, true, true, true, false, false, false, false] rfl (by kernel_rfl) (by kernel_rfl) (by kernel_rfl) (fun _ _ _ h => h) (by kernel_rfl) (Stay.refl _ _) (Or.inl ⟨by rfl, fun W hW => ?_⟩) ?_
                · go_simp
                conv => arg 8; simp [Act.put]
                refine wpAnyH_takeL (i := 10) (v := .string ⟨t.val.toArray⟩) #[true, true, true, true, true, false, true, true, true, true, true, false, false, false] rfl (by kernel_rfl) (by kernel_rfl) (by kernel_rfl) (fun _ _ _ h => h) (by kernel_rfl) (Stay.refl _ _) (Or.inl ⟨by rfl, fun W hW => ?_⟩) ?_
                · have r3 := (hst.trans hW).cell q3 HNX.out
                  go_simp
                conv => arg 8; simp [Act.put]
                refine wpAnyH_one #[true, true, true, true, true, true, true, true, true, true, true, false, false, false] (i := 5) rfl (by kernel_rfl) (by kernel_rfl) (fun K hK => ?_)
                go_simp
                go_wp2_with (go_at_call 15; refine (HLG.out x _).mono ?_; rintro e z1 ⟨rfl, s0⟩; have s : Stay (fun k => A k ∨ w5.drew.heap.size ≤ k) w5.drew z1 := s0.mono (fun _ x => x.elim); have HS1 := Lib.hid (Stay.drew.trans s0))
                replace hst := hst.trans s
                refine hK _ _ s ?_
                clear hK
                conv => arg 8; simp [Act.put]
                refine wpAnyH_narrow (S' := Stay (fun k => A k ∨ w5.drew.heap.size ≤ k) z1) (fun _ h => s.trans h) _ _ _ _ ?_
                clear s
                refine wpAnyH_one #[true, true, true, true, true, true, true, true, true, true, true, true, false, false] (i := 11) rfl (by kernel_rfl) (by kernel_rfl) (fun K hK => ?_)
                go_simp
                go_wp2_with (go_at_call 15; refine (HLG.out y _).mono ?_; rintro e z2 ⟨rfl, s0⟩; have s : Stay (fun k => A k ∨ w5.drew.heap.size ≤ k) z1 z2 := s0.mono (fun _ x => x.elim); have HSS := Lib.hid (HS1.out.trans s0))
                replace hst := hst.trans s
                refine hK _ _ s ?_
                clear hK
                conv => arg 8; simp [Act.put]
                refine wpAnyH_narrow (S' := Stay (fun k => A k ∨ w5.drew.heap.size ≤ k) z2) (fun _ h => s.trans h) _ _ _ _ ?_
                clear s
                refine wpAnyH_takeL (i := 12) (v := .iface 73 (.int .i64 2)) #[true, true, true, true, true, true, true, true, true, true, true, true, true, false] rfl (by kernel_rfl) (by kernel_rfl) (by kernel_rfl) (fun _ _ _ h => h) (by kernel_rfl) (Stay.refl _ _) (Or.inl ⟨by rfl, fun W hW => ?_⟩) ?_
                · go_simp
                conv => arg 8; simp [Act.put]
                refine wpAnyH_takeL (i := 13) (v := .iface 73 (.int .i64 2)) #[true, true, true, true, true, true, true, true, true, true, true, true, true, true] rfl (by kernel_rfl) (by kernel_rfl) (by kernel_rfl) (fun _ _ _ h => h) (by kernel_rfl) (Stay.refl _ _) (Or.inl ⟨by rfl, fun W hW => ?_⟩) ?_
                · go_simp
                conv => arg 8; simp [Act.put]
                refine wpAnyH_done (by kernel_rfl) ?_ _
                go_wp2
                rw [HK9.out]
                exact ⟨_, 2, rfl, rfl, (HR5.out.stay0 HSS.out).up, HSS.out.cell q2 (fun x => x)⟩
              · have HF0 := Lib.hid (show FSt A w5.drew w5.drew x y M (putL M ⟨t.key, t.val, false⟩) i false false from hst5.shift Stay.drew (fun k hk => (HA5.out.1 k hk).2))
                go_wp2_with fail
                refine wp_region_held (S := Stay (fun k => A k ∨ w5.drew.heap.size ≤ k) w5.drew) (by kernel_rfl) ?_
                change wpAnyH _ _ _ _ _ _ _ _ (World.drew _)
                have hst : Stay (fun k => A k ∨ w5.drew.heap.size ≤ k) w5 w5.drew := Stay.drew
                refine wpAnyH_takeL (i := 0) (v := .pointer (some ⟨x, 0, none⟩)) #[true, false, false, false, false, false, false, false, false, false, false, false, false, false] rfl (by kernel_rfl) (by kernel_rfl) (by kernel_rfl) (fun _ _ _ h => h) (by kernel_rfl) (Stay.refl _ _) (Or.inl ⟨by rfl, fun W hW => ?_⟩) ?_
                · go_simp
                conv => arg 8; simp [Act.put]
                refine wpAnyH_takeL (i := 1) (v := .pointer (some ⟨bx, 2, none⟩)) #[true, true, false, false, false, false, false, false, false, false, false, false, false, false] rfl (by kernel_rfl) (by kernel_rfl) (by kernel_rfl) (fun _ _ _ h => h) (by kernel_rfl) (Stay.refl _ _) (Or.inl ⟨by rfl, fun W hW => ?_⟩) ?_
                · go_simp
                conv => arg 8; simp [Act.put]
                refine wpAnyH_takeL (i := 2) (v := .string ⟨t.key.toArray⟩) #[true, true, true, false, false, false, false, false, false, false, false, false, false, false] rfl (by kernel_rfl) (by kernel_rfl) (by kernel_rfl) (fun _ _ _ h => h) (by kernel_rfl) (Stay.refl _ _) (Or.inl ⟨by rfl, fun W hW => ?_⟩) ?_
                · have r2 := (hst.trans hW).cell q2 HNX.out
                  go_simp
                conv => arg 8; simp [Act.put]
                refine wpAnyH_takeL (i := 3) (v := .pointer (some ⟨bx, 3, none⟩)) #[true, true, true, true, false, false, false, false, false, false, false, false, false, false] rfl (by kernel_rfl) (by kernel_rfl) (by kernel_rfl) (fun _ _ _ h => h) (by kernel_rfl) (Stay.refl _ _) (Or.inl ⟨by rfl, fun W hW => ?_⟩) ?_
                · go_simp
                conv => arg 8; simp [Act.put]
                refine wpAnyH_takeL (i := 4) (v := .string ⟨t.val.toArray⟩) #[true, true, true, true, true, false, false, false, false, false, false, false, false, false] rfl (by kernel_rfl) (by kernel_rfl) (by kernel_rfl) (fun _ _ _ h => h) (by kernel_rfl) (Stay.refl _ _) (Or.inl ⟨by rfl, fun W hW => ?_⟩) ?_
                · have r3 := (hst.trans hW).cell q3 HNX.out
                  go_simp
                conv => arg 8; simp [Act.put]
                refine wpAnyH_takeL (i := 6) (v := .pointer (some ⟨y, 0, none⟩)) #[true, true, true, true, true, false, true, false, false, false, false, false, false, false] rfl (by kernel_rfl) (by kernel_rfl) (by kernel_rfl) (fun _ _ _ h => h) (by kernel_rfl) (Stay.refl _ _) (Or.inl ⟨by rfl, fun W hW => ?_⟩) ?_
                · go_simp
                conv => arg 8; simp [Act.put]
                refine wpAnyH_takeL (i := 7) (v := .pointer (some ⟨bx, 2, none⟩)) #[true, true, true, true, true, false, true, true, false, false, false, false, false, false] rfl (by kernel_rfl) (by kernel_rfl) (by kernel_rfl) (fun _ _ _ h => h) (by kernel_rfl) (Stay.refl _ _) (Or.inl ⟨by rfl, fun W hW => ?_⟩) ?_
                · go_simp
                conv => arg 8; simp [Act.put]
                refine wpAnyH_takeL (i := 8) (v := .string ⟨t.key.toArray⟩) #[true, true, true, true, true, false, true, true, true, false, false, false, false, false] rfl (by kernel_rfl) (by kernel_rfl) (by kernel_rfl) (fun _ _ _ h => h) (by kernel_rfl) (Stay.refl _ _) (Or.inl ⟨by rfl, fun W hW => ?_⟩) ?_
                · have r2 := (hst.trans hW).cell q2 HNX.out
                  go_simp
                conv => arg 8; simp [Act.put]
                refine wpAnyH_takeL (i := 9) (v := .pointer (some ⟨bx, 3, none⟩)) #[true, true, true, true, true, false, true, true, true, true, false, false, false, false] rfl (by kernel_rfl) (by kernel_rfl) (by kernel_rfl) (fun _ _ _ h => h) (by kernel_rfl) (Stay.refl _ _) (Or.inl ⟨by rfl, fun W hW => ?_⟩) ?_
                · go_simp
                conv => arg 8; simp [Act.put]
                refine wpAnyH_takeL (i := 10) (v := .string ⟨t.val.toArray⟩) #[true, true, true, true, true, false, true, true, true, true, true, false, false, false] rfl (by kernel_rfl) (by kernel_rfl) (by kernel_rfl) (fun _ _ _ h => h) (by kernel_rfl) (Stay.refl _ _) (Or.inl ⟨by rfl, fun W hW => ?_⟩) ?_
                · have r3 := (hst.trans hW).cell q3 HNX.out
                  go_simp
                conv => arg 8; simp [Act.put]
                refine wpAnyH_one #[true, true, true, true, true, true, true, true, true, true, true, false, false, false] (i := 5) rfl (by kernel_rfl) (by kernel_rfl) (fun K hK => ?_)
                go_simp
                go_wp2_with (go_at_call 15; refine (FSt.put1 t.key t.val HF0.out (by omega) HOK.out.key HOK.out.val hlong).mono ?_; rintro e z1 ⟨rfl, hf, s⟩; have HFX := Lib.hid hf)
                replace hst := hst.trans s
                refine hK _ _ s ?_
                clear hK
                conv => arg 8; simp [Act.put]
                refine wpAnyH_narrow (S' := Stay (fun k => A k ∨ w5.drew.heap.size ≤ k) z1) (fun _ h => s.trans h) _ _ _ _ ?_
                clear s
                refine wpAnyH_one #[true, true, true, true, true, true, true, true, true, true, true, true, false, false] (i := 11) rfl (by kernel_rfl) (by kernel_rfl) (fun K hK => ?_)
                go_simp
                go_wp2_with (go_at_call 15; refine (FSt.put2 t.key t.val HFX.out (by omega) HOK.out.key HOK.out.val hlong).mono ?_; rintro e z2 ⟨rfl, hf, s⟩; have HFF := Lib.hid hf)
                replace hst := hst.trans s
                refine hK _ _ s ?_
                clear hK
                conv => arg 8; simp [Act.put]
                refine wpAnyH_narrow (S' := Stay (fun k => A k ∨ w5.drew.heap.size ≤ k) z2) (fun _ h => s.trans h) _ _ _ _ ?_
                clear s
                refine wpAnyH_takeL (i := 12) (v := .nilIface) #[true, true, true, true, true, true, true, true, true, true, true, true, true, false] rfl (by kernel_rfl) (by kernel_rfl) (by kernel_rfl) (fun _ _ _ h => h) (by kernel_rfl) (Stay.refl _ _) (Or.inl ⟨by rfl, fun W hW => ?_⟩) ?_
                · go_simp
                conv => arg 8; simp [Act.put]
                refine wpAnyH_takeL (i := 13) (v := .nilIface) #[true, true, true, true, true, true, true, true, true, true, true, true, true, true] rfl (by kernel_rfl) (by kernel_rfl) (by kernel_rfl) (fun _ _ _ h => h) (by kernel_rfl) (Stay.refl _ _) (Or.inl ⟨by rfl, fun W hW => ?_⟩) ?_
                · go_simp
                conv => arg 8; simp [Act.put]
                refine wpAnyH_done (by kernel_rfl) ?_ _
                go_wp2
                rw [HK9.out]
                exact ⟨_, 0, rfl, rfl, FRel.both HFF.out HA5.out.1 HA5.out.2.1 (HA5.out.2.2.trans Stay.drew), (Stay.drew.trans HFF.out.stay).cell q2 HNB.out⟩
            --]]
          case next =>
            rw [HK9.out] at hk9
            obtain ⟨ev, c, hfr9, hev, hr9, hc9⟩ := hk9
            obtain ⟨yy, hy⟩ : ∃ yy : Nat → Value, ∀ i, a9.tmps.getD i undef = yy i := ⟨_, fun _ => rfl⟩
            simp only [hy] at hfr9
            clear hy HK9 hkv hkd10 HR5 hst5 HA5 HNB q0 q2 q3
            subst hfr9
            have HR9 := Lib.hid hr9
            have HEV := Lib.hid hev
            obtain ⟨M9, hget, _⟩ := hr9.asks (by omega)
            have HGT := Lib.hid hget
            have HGS := Lib.hid (show ErrCell W from by
              obtain ⟨_, _, _, _, _, h6⟩ := hr9
              exact (Pk.ErrCell.stay0 HG.out (HS4.out.andThen h6 (fun k hk h => by omega))))
            clear hr9 hev hget
            go_wp2_with fail
            refine (HGT.out x (.inl rfl) W t.key (Stay.refl _ _) HOK.out.key).mono ?_
            rintro e w9 ⟨rfl, hs9⟩
            have HS9 := Lib.hid hs9
            have c9 := hs9.cell hc9 (fun x => x)
            clear hs9 hc9
            go_wp2_with fail
            refine (HGT.out y (.inr rfl) w9 t.key HS9.out HOK.out.key).mono ?_
            rintro e w10 ⟨rfl, hs10⟩
            have HS10 := Lib.hid (HS9.out.trans hs10)
            obtain ⟨r1, hr1⟩ : ∃ r1, r1 = (tellV (look [M9] t.key)).1 := ⟨_, rfl⟩
            obtain ⟨r2, hr2⟩ : ∃ r2, r2 = (tellV (look [M9] t.key)).2 := ⟨_, rfl⟩
            rw [← hr1, ← hr2]
            clear hs10 HGT c9 hr1 hr2
            go_wp2_with fail
            refine (Pk.num_any c w10 (Pk.ErrCell.stay0 HGS.out HS10.out) ev HEV.out).mono ?_
            rintro e w11 ⟨rfl, hs11⟩
            go_wp2_with fail
            refine (Pk.num_any c w11 (Pk.ErrCell.stay0 (Pk.ErrCell.stay0 HGS.out HS10.out) hs11) ev HEV.out).mono ?_
            rintro e w12 ⟨rfl, hs12⟩
            have HR12 := Lib.hid (HR9.out.stay0 (HS10.out.trans (hs11.trans hs12)))
            clear hs11 hs12
            go_wp2_with fail
            refine HK2.out _ _ ?_
            go_wp2
            exact ⟨⟨i + 1, by go_num, hlt, h30, HR12⟩, by simp [intOf]; omega⟩
        · have h30f : ((i : Int) < 30) = False := by simp; omega
          obtain ⟨M9, _, hrg⟩ := HR.out.asks (by omega)
          have HRG := Lib.hid hrg
          clear hrg
          go_wp2_with fail
          refine (HRG.out x (.inl rfl) wr ka kb (Stay.refl _ _)).mono ?_
          rintro e w9 ⟨v9, rfl, ho9, hs9⟩
          have HO9 := Lib.hid ho9.ens
          have HS9 := Lib.hid hs9
          obtain ⟨a9, n9, c9, rfl⟩ : ∃ a n c, v9 = .slice a n c := by obtain ⟨a, c, e⟩ := ho9.form; exact ⟨a, _, c, e⟩
          clear ho9 hs9
          go_wp2_with fail
          refine (HRG.out y (.inr rfl) w9 ka kb HS9.out).mono ?_
          rintro e w10 ⟨v10, rfl, ho10, hs10⟩
          have HO10 := Lib.hid ho10.ens
          have HS10 := Lib.hid hs10
          obtain ⟨a10, n10, c10, rfl⟩ : ∃ a n c, v10 = .slice a n c := by obtain ⟨a, c, e⟩ := ho10.form; exact ⟨a, _, c, e⟩
          clear ho10 hs10
          go_wp2_with fail
          refine (entries_eq w10 _ _ _ _ (HO9.out.stay0 HS10.out) HO10.out).mono ?_
          rintro e w11 ⟨rfl, hs11⟩
          rw [decide_eq_true rfl]
          have HS11 := Lib.hid (HSE.out.trans (HS9.out.trans (HS10.out.trans hs11)))
          clear hs11
          go_wp2_with fail
          refine (sure_any w11).mono ?_
          rintro e w12 ⟨rfl, hs12⟩
          have HS12 := Lib.hid (HS11.out.trans hs12)
          clear hs12
          go_wp2
          go_ret
          exact ⟨rfl, HS12.out⟩
      · have hinf : ((i : Int) < (n : Int)) = False := by simp; omega
        obtain ⟨M9, _, hrg⟩ := HR.out.asks (by omega)
        have HRG := Lib.hid hrg
        clear hrg
        go_wp2_with fail
        refine (HRG.out x (.inl rfl) wr ka kb (Stay.refl _ _)).mono ?_
        rintro e w9 ⟨v9, rfl, ho9, hs9⟩
        have HO9 := Lib.hid ho9.ens
        have HS9 := Lib.hid hs9
        obtain ⟨a9, n9, c9, rfl⟩ : ∃ a n c, v9 = .slice a n c := by obtain ⟨a, c, e⟩ := ho9.form; exact ⟨a, _, c, e⟩
        clear ho9 hs9
        go_wp2_with fail
        refine (HRG.out y (.inr rfl) w9 ka kb HS9.out).mono ?_
        rintro e w10 ⟨v10, rfl, ho10, hs10⟩
        have HO10 := Lib.hid ho10.ens
        have HS10 := Lib.hid hs10
        obtain ⟨a10, n10, c10, rfl⟩ : ∃ a n c, v10 = .slice a n c := by obtain ⟨a, c, e⟩ := ho10.form; exact ⟨a, _, c, e⟩
        clear ho10 hs10
        go_wp2_with fail
        refine (entries_eq w10 _ _ _ _ (HO9.out.stay0 HS10.out) HO10.out).mono ?_
        rintro e w11 ⟨rfl, hs11⟩
        rw [decide_eq_true rfl]
        have HS11 := Lib.hid (HSE.out.trans (HS9.out.trans (HS10.out.trans hs11)))
        clear hs11
        go_wp2_with fail
        refine (sure_any w11).mono ?_
        rintro e w12 ⟨rfl, hs12⟩
        have HS12 := Lib.hid (HS11.out.trans hs12)
        clear hs12
        go_wp2
        go_ret
        exact ⟨rfl, HS12.out⟩
end Go.Proofs.YtljlfdhjolcnaaaGreatDoor.Ix
