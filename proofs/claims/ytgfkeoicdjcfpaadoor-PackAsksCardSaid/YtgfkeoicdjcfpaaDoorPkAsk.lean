/-
  PackAsks' walk.
-/
import Derived.Test.YtgfkeoicdjcfpaaDoorPkAskF
namespace Go.Proofs.YtgfkeoicdjcfpaaDoor.Pk
open Go.RowKit
set_option maxRecDepth 100000

set_option maxHeartbeats 40000000 in
theorem asks_walk (w : World) (x : Value) (b : List UInt8) (lp : Option Addr) (c1 : Nat) (L : List (Int × Int)) (hx : Slc w x b) (hlen : b.length ≤ 140737488355328) (ha : Asks w lp L) (hg : ErrCell w) :
    Calls Tryd.prog 3 #[x, .slice lp L.length c1] w fun e w' => e = .returned (.bool true) ∧ Stay (fun _ => False) w w' := by
  have hL := ha.1
  have HX := Lib.hid hx
  have HA := Lib.hid ha
  have HG := Lib.hid hg
  clear hx ha hg
  go_enter Tryd.func3, Tryd.ntmps3
  go_wp2_with fail
  refine (read_cap w x b HX.out hlen).mono ?_
  rintro e w1 ⟨p, rfl, hr1, hs1⟩
  obtain ⟨a0, c0, hx0, _⟩ := id HX.out
  subst hx0
  go_wp2_with fail
  have hI0 : AskInv w (w1.alloc (.cells #[.slice a0 b.length c0, .int .i64 0] 27)) p w1.heap.size ⟨b, 0⟩ (.slice a0 b.length c0) :=
    ⟨hs1.trans (Stay.alloc _ _), (hr1.mono (fun k hk => ⟨hk.1, by have := hk.2; omega⟩)).stay0 (Stay.alloc _ _), heap_alloc_new w1 _, (HX.out.stay0 hs1).stay0 (Stay.alloc _ _), fun h0 => HX.out.blk_lt h0, hlen, hs1.size⟩
  have HI0 := Lib.hid hI0
  clear hI0 hr1 hs1
  generalize w1.alloc (.cells #[.slice a0 b.length c0, .int .i64 0] 27) = w2 at HI0 ⊢
  generalize w1.heap.size = q at HI0 ⊢
  go_loopw [7] (fun c wr => ∃ (i : Nat) (s : RS) (x' : Value), i ≤ L.length ∧ i ≤ 100 ∧ c = .int .i64 (i : Int) ∧ AskInv w wr p q s x') (fun c _ => 100 - (intOf c).toNat)
  case atStart => exact ⟨0, _, _, by omega, by omega, rfl, HI0.out⟩
  case round =>
    obtain ⟨i, s, x', hi1, hi2, rfl, hinv⟩ := hrel
    have INV := Lib.hid hinv
    obtain ⟨ax, cx, rfl, _⟩ := id hinv.l
    clear hinv
    obtain ⟨kq0, kq1, _, _⟩ := two_cells INV.out.b
    by_cases hmore : i < L.length ∧ i < 100
    · obtain ⟨hm1, hm2⟩ := hmore
      obtain ⟨lb, lo, rfl, hlb, hget⟩ := HA.out.2 (by omega)
      obtain ⟨⟨kd, mo⟩, hkm⟩ : ∃ v, L[i]? = some v := ⟨L[i], List.getElem?_eq_getElem hm1⟩
      obtain ⟨hc0, hc1, hmo1, hmo2⟩ := hget i kd mo hkm
      have HC0 := Lib.hid hc0
      have HC1 := Lib.hid hc1
      have ke0 := INV.out.st.cell hc0 (fun y => y)
      obtain ⟨k, hk7, hk⟩ := mod7 kd
      clear hget hkm hc0 hc1
      have hkk : k = 0 ∨ k = 1 ∨ k = 2 ∨ k = 3 ∨ k = 4 ∨ k = 5 ∨ k = 6 := by omega
      rcases hkk with rfl | rfl | rfl | rfl | rfl | rfl | rfl
      · as_aux_lemma =>
          obtain ⟨⟨n5, s5⟩, ht⟩ : ∃ t, takeB (numB (IntKind.u64.wrap mo).toNat) 0 s = t := ⟨_, rfl⟩
          have HT := Lib.hid ht
          have HLE := Lib.hid (show s5.b.length ≤ s.b.length by have := takeB_len (rule := (numB (IntKind.u64.wrap mo).toNat)) (zero := 0) (s := s) (fun _ _ h => numB_len h); rw [ht] at this; exact this)
          clear ht
          obtain ⟨S, hSd⟩ : ∃ S : World → Prop, S = Stay (fun k => False) wr := ⟨_, rfl⟩
          have HS := Lib.hid (show ∀ W, S W → Stay (fun k => False) wr W by intro W h; rw [hSd] at h; exact h)
          have HSm := Lib.hid (show ∀ W, Stay (fun k => False) wr W → S W by intro W h; rw [hSd]; exact h)
          clear hSd
          have HQ0 := Lib.hid (fun W (h : S W) => (two_cells (((HS.out W h).block _ (lt_of_block INV.out.b) (fun y => y)).trans INV.out.b)).1)
          have HQ1 := Lib.hid (fun W (h : S W) => (two_cells (((HS.out W h).block _ (lt_of_block INV.out.b) (fun y => y)).trans INV.out.b)).2.1)
          have HE0 := Lib.hid (show ∀ W, S W → W.cell? ⟨lb, lo + i * 2 + 1, none⟩ = some (.int .i64 mo) from fun W h => (HS.out W h).cell (INV.out.st.cell HC1.out (fun y => y)) (fun y => y))
          go_wp2
          refine wp_region_held (S := S) (by kernel_rfl) ?_
          change wpAnyH _ _ _ _ _ _ _ _ (World.drew _)
          refine wpAnyH_takeL (i := 0) (v := .agg #[.slice ax s.b.length cx, .int .i64 (s.err : Int)]) #[true, false, false, false, false, false, false, false, false, false, false, false, false, false] rfl (by kernel_rfl) (by kernel_rfl) (by kernel_rfl) (fun _ _ _ h => h) (by kernel_rfl) (HSm.out _ Stay.drew) (Or.inl ⟨by rfl, fun W hW => ?_⟩) ?_
          · have k0 := HQ0.out W hW
            have k1 := HQ1.out W hW
            go_simp
          conv =>
            arg 8
            simp [Act.put]
          refine wpAnyH_takeL (i := 1) (v := .slice (some ⟨lb, lo, none⟩) L.length c1) #[true, true, false, false, false, false, false, false, false, false, false, false, false, false] rfl (by kernel_rfl) (by kernel_rfl) (by kernel_rfl) (fun _ _ _ h => h) (by kernel_rfl) (HSm.out _ Stay.drew) (Or.inl ⟨by rfl, fun W hW => ?_⟩) ?_
          · go_simp
          conv =>
            arg 8
            simp [Act.put]
          refine wpAnyH_takeL (i := 2) (v := .int .i64 (i : Int)) #[true, true, true, false, false, false, false, false, false, false, false, false, false, false] rfl (by kernel_rfl) (by kernel_rfl) (by kernel_rfl) (fun _ _ _ h => h) (by kernel_rfl) (HSm.out _ Stay.drew) (Or.inl ⟨by rfl, fun W hW => ?_⟩) ?_
          · go_simp
          conv =>
            arg 8
            simp [Act.put]
          refine wpAnyH_takeL (i := 3) (v := .pointer (some ⟨lb, lo + i * 2, none⟩)) #[true, true, true, true, false, false, false, false, false, false, false, false, false, false] rfl (by kernel_rfl) (by kernel_rfl) (by kernel_rfl) (fun _ _ _ h => h) (by kernel_rfl) (HSm.out _ Stay.drew) (Or.inl ⟨by rfl, fun W hW => ?_⟩) ?_
          · go_simp
          conv =>
            arg 8
            simp [Act.put]
          refine wpAnyH_takeL (i := 4) (v := .pointer (some ⟨lb, lo + i * 2 + 1, none⟩)) #[true, true, true, true, true, false, false, false, false, false, false, false, false, false] rfl (by kernel_rfl) (by kernel_rfl) (by kernel_rfl) (fun _ _ _ h => h) (by kernel_rfl) (HSm.out _ Stay.drew) (Or.inl ⟨by rfl, fun W hW => ?_⟩) ?_
          · go_simp
          conv =>
            arg 8
            simp [Act.put]
          refine wpAnyH_takeL (i := 5) (v := .int .i64 mo) #[true, true, true, true, true, true, false, false, false, false, false, false, false, false] rfl (by kernel_rfl) (by kernel_rfl) (by kernel_rfl) (fun _ _ _ h => h) (by kernel_rfl) (HSm.out _ Stay.drew) (Or.inl ⟨by rfl, fun W hW => ?_⟩) ?_
          · have k0 := HE0.out W hW
            go_simp
          conv =>
            arg 8
            simp [Act.put]
          refine wpAnyH_takeL (i := 6) (v := .int .u64 (IntKind.u64.wrap mo)) #[true, true, true, true, true, true, true, false, false, false, false, false, false, false] rfl (by kernel_rfl) (by kernel_rfl) (by kernel_rfl) (fun _ _ _ h => h) (by kernel_rfl) (HSm.out _ Stay.drew) (Or.inl ⟨by rfl, fun W hW => ?_⟩) ?_
          · go_simp
          conv =>
            arg 8
            simp [Act.put]
          refine wpAnyH_two (i := 7) (j := 11) #[true, true, true, true, true, true, true, true, false, false, false, false, false, false] #[true, true, true, true, true, true, true, false, false, false, false, true, false, false] rfl rfl (by kernel_rfl) (by kernel_rfl) (by kernel_rfl) (fun K hK => ?_) (fun K hK => ?_)
          · as_aux_lemma =>
              go_simp
              go_wp2_with (
                go_at_call 7
                refine (rruint_at s.b s.err (IntKind.u64.wrap mo).toNat _ _ _ _ (by have := wrap_u64_nonneg mo; omega) rfl (INV.out.l.stay0 Stay.drew) (by have := wrap_u64_le mo; unfold M64; omega)).mono ?_
                rintro e w5 ⟨hret, hs5⟩
                rw [show (⟨s.b, s.err⟩ : RS) = s from rfl, HT.out] at hret
                obtain ⟨x5, rfl, hsub5⟩ := hret
                obtain ⟨a5, c5, rfl, _⟩ := id hsub5.1
  
                have HS5 := Lib.hid (show Stay (fun _ => False) wr w5 from Stay.drew.trans hs5)
                have HSU5 := Lib.hid hsub5
                clear hs5 hsub5)
              unfold rdV u64V
              refine hK _ _ ?_ ?_
              · exact HSm.out _ HS5.out
              conv =>
                arg 8
                simp [Act.put]
              refine wpAnyH_takeL (i := 8) (v := .tuple #[.agg #[.slice a5 s5.b.length c5, .int .i64 (s5.err : Int)], .int .u64 (n5 : Int)]) #[true, true, true, true, true, true, true, true, true, false, false, false, false, false] rfl (by kernel_rfl) (by kernel_rfl) (by kernel_rfl) (fun _ _ _ h => h) (by kernel_rfl) (HSm.out _ HS5.out) (Or.inl ⟨by rfl, fun W hW => ?_⟩) ?_
              · go_simp
              conv =>
                arg 8
                simp [Act.put]
              refine wpAnyH_takeL (i := 9) (v := .agg #[.slice a5 s5.b.length c5, .int .i64 (s5.err : Int)]) #[true, true, true, true, true, true, true, true, true, true, false, false, false, false] rfl (by kernel_rfl) (by kernel_rfl) (by kernel_rfl) (fun _ _ _ h => h) (by kernel_rfl) (HSm.out _ HS5.out) (Or.inl ⟨by rfl, fun W hW => ?_⟩) ?_
              · go_simp
              conv =>
                arg 8
                simp [Act.put]
              refine wpAnyH_takeL (i := 10) (v := .int .u64 (n5 : Int)) #[true, true, true, true, true, true, true, true, true, true, true, false, false, false] rfl (by kernel_rfl) (by kernel_rfl) (by kernel_rfl) (fun _ _ _ h => h) (by kernel_rfl) (HSm.out _ HS5.out) (Or.inl ⟨by rfl, fun W hW => ?_⟩) ?_
              · go_simp
              conv =>
                arg 8
                simp [Act.put]
              refine wpAnyH_one #[true, true, true, true, true, true, true, true, true, true, true, true, false, false] (i := 11) rfl (by kernel_rfl) (by kernel_rfl) (fun K hK => ?_)
              go_simp
              refine hK _ _ ?_ ?_
              · exact HSm.out _ (HS5.out.trans (Stay.alloc _ _))
              conv =>
                arg 8
                simp [Act.put]
              refine wpAnyH_one #[true, true, true, true, true, true, true, true, true, true, true, true, true, false] (i := 12) rfl (by kernel_rfl) (by kernel_rfl) (fun K hK => ?_)
              refine step_store_mid rfl 27 (.tmp 9) (.tmp 67) rfl (w5.heap.size) 0 rfl 27 _ [.slice a5 s5.b.length c5, .int .i64 (s5.err : Int)] rfl (heap_alloc_new w5 (.cells #[.slice none 0 0, .int .i64 0] 27)) (by kernel_rfl) (Nat.le_refl _) (by intro v hv; simp at hv; rcases hv with rfl | rfl <;> rfl) ?_
              intro wA hbA hsA
              have HBX := Lib.hid (show wA.heap[w5.heap.size]? = some (.cells #[.slice a5 s5.b.length c5, .int .i64 (s5.err : Int)] 27 (0, 0)) from hbA)
              have hlow := Lib.hid (show Stay (fun k => wr.heap.size ≤ k) w5 wA from ((Stay.alloc (X := fun _ => False) _ _).mono (fun _ y => y.elim)).trans (hsA.mono (fun k (y : k = _) => by have := HS5.out.size; omega)))
              have HSA := Lib.hid (show Stay (fun _ => False) wr wA from stay_seal (X := fun k => wr.heap.size ≤ k) ((HS5.out.mono (fun _ y => y.elim)).trans hlow.out) (fun _ hk => hk))
              have HSUB := Lib.hid (show Sub wA (.slice ax s.b.length cx) (.slice a5 s5.b.length c5) s5.b from ⟨slc_stayE HSU5.out.1 hlow.out (fun h0 k e hB => by have h1 := INV.out.xb (by have := HLE.out; omega) k (HSU5.out.2 k e); have h2 := INV.out.st.size; omega), HSU5.out.2⟩)
              have HGL := Lib.hid (show wr.heap.size ≤ w5.heap.size by have := HS5.out.size; omega)
              clear hbA hsA
              refine hK _ _ ?_ ?_
              · exact HSm.out _ HSA.out
              conv =>
                arg 8
                simp [Act.put]
              refine wpAnyH_takeL (i := 13) (v := .int .u64 (n5 : Int)) #[true, true, true, true, true, true, true, true, true, true, true, true, true, true] rfl (by kernel_rfl) (by kernel_rfl) (by kernel_rfl) (fun _ _ _ h => h) (by kernel_rfl) (HSm.out _ HSA.out) (Or.inl ⟨by rfl, fun W hW => ?_⟩) ?_
              · go_simp
              conv =>
                arg 8
                simp [Act.put]
              refine wpAnyH_done (by kernel_rfl) ?_ _
              clear HQ0 HQ1 HE0 HS HSm
              have HINA := Lib.hid (INV.out.stay0 HSA.out)
              have hgp : ¬ (w5.heap.size = p ∨ w5.heap.size = q) := by have h1 := RdAt.lt INV.out.r; have h2 := lt_of_block INV.out.b; have h3 := HGL.out; omega
              obtain ⟨S, hSd⟩ : ∃ S : World → Prop, S = Stay (fun k => k = p ∨ k = q) wA := ⟨_, rfl⟩
              have HS := Lib.hid (show ∀ W, S W → Stay (fun k => k = p ∨ k = q) wA W by intro W h; rw [hSd] at h; exact h)
              have HSm := Lib.hid (show ∀ W, Stay (fun k => k = p ∨ k = q) wA W → S W by intro W h; rw [hSd]; exact h)
              clear hSd
              have HG0 := Lib.hid (fun W (h : S W) => (two_cells (((HS.out W h).block _ (lt_of_block HBX.out) hgp).trans HBX.out)).1)
              have HG1 := Lib.hid (fun W (h : S W) => (two_cells (((HS.out W h).block _ (lt_of_block HBX.out) hgp).trans HBX.out)).2.1)
              have HE1 := Lib.hid (show ∀ W, S W → W.cell? ⟨lb, lo + i * 2 + 1, none⟩ = some (.int .i64 mo) from fun W h => (HS.out W h).cell (HINA.out.st.cell HC1.out (fun y => y)) (fun y => by have h1 := HINA.out.r.own.1; have h2 := HINA.out.qge; rcases y with y | y <;> (have y' : lb = _ := y; omega)))
              have HRA := Lib.hid (HINA.out.r.stay0 Stay.drew)
              clear hgp
              go_wp2
              refine wp_region_held (S := S) (by kernel_rfl) ?_
              change wpAnyH _ _ _ _ _ _ _ _ (World.drew _)
              refine wpAnyH_takeL (i := 0) (v := .agg #[.slice a5 s5.b.length c5, .int .i64 (s5.err : Int)]) #[true, false, false, false, false, false, false, false, false, false, false, false, false] rfl (by kernel_rfl) (by kernel_rfl) (by kernel_rfl) (fun _ _ _ h => h) (by kernel_rfl) (HSm.out _ Stay.drew) (Or.inl ⟨by rfl, fun W hW => ?_⟩) ?_
              · have k0 := HG0.out W hW
                have k1 := HG1.out W hW
                go_simp
              conv =>
                arg 8
                simp [Act.put]
              refine wpAnyH_takeL (i := 1) (v := .pointer (some ⟨p, 0, none⟩)) #[true, true, false, false, false, false, false, false, false, false, false, false, false] rfl (by kernel_rfl) (by kernel_rfl) (by kernel_rfl) (fun _ _ _ h => h) (by kernel_rfl) (HSm.out _ Stay.drew) (Or.inl ⟨by rfl, fun W hW => ?_⟩) ?_
              · go_simp
              conv =>
                arg 8
                simp [Act.put]
              refine wpAnyH_takeL (i := 2) (v := .slice (some ⟨lb, lo, none⟩) L.length c1) #[true, true, true, false, false, false, false, false, false, false, false, false, false] rfl (by kernel_rfl) (by kernel_rfl) (by kernel_rfl) (fun _ _ _ h => h) (by kernel_rfl) (HSm.out _ Stay.drew) (Or.inl ⟨by rfl, fun W hW => ?_⟩) ?_
              · go_simp
              conv =>
                arg 8
                simp [Act.put]
              refine wpAnyH_takeL (i := 3) (v := .int .i64 (i : Int)) #[true, true, true, true, false, false, false, false, false, false, false, false, false] rfl (by kernel_rfl) (by kernel_rfl) (by kernel_rfl) (fun _ _ _ h => h) (by kernel_rfl) (HSm.out _ Stay.drew) (Or.inl ⟨by rfl, fun W hW => ?_⟩) ?_
              · go_simp
              conv =>
                arg 8
                simp [Act.put]
              refine wpAnyH_takeL (i := 9) (v := .int .u64 (n5 : Int)) #[true, true, true, true, false, false, false, false, false, true, false, false, false] rfl (by kernel_rfl) (by kernel_rfl) (by kernel_rfl) (fun _ _ _ h => h) (by kernel_rfl) (HSm.out _ Stay.drew) (Or.inl ⟨by rfl, fun W hW => ?_⟩) ?_
              · go_simp
              conv =>
                arg 8
                simp [Act.put]
              refine wpAnyH_takeL (i := 4) (v := .pointer (some ⟨lb, lo + i * 2, none⟩)) #[true, true, true, true, true, false, false, false, false, true, false, false, false] rfl (by kernel_rfl) (by kernel_rfl) (by kernel_rfl) (fun _ _ _ h => h) (by kernel_rfl) (HSm.out _ Stay.drew) (Or.inl ⟨by rfl, fun W hW => ?_⟩) ?_
              · go_simp
              conv =>
                arg 8
                simp [Act.put]
              refine wpAnyH_takeL (i := 5) (v := .pointer (some ⟨lb, lo + i * 2 + 1, none⟩)) #[true, true, true, true, true, true, false, false, false, true, false, false, false] rfl (by kernel_rfl) (by kernel_rfl) (by kernel_rfl) (fun _ _ _ h => h) (by kernel_rfl) (HSm.out _ Stay.drew) (Or.inl ⟨by rfl, fun W hW => ?_⟩) ?_
              · go_simp
              conv =>
                arg 8
                simp [Act.put]
              refine wpAnyH_takeL (i := 6) (v := .int .i64 mo) #[true, true, true, true, true, true, true, false, false, true, false, false, false] rfl (by kernel_rfl) (by kernel_rfl) (by kernel_rfl) (fun _ _ _ h => h) (by kernel_rfl) (HSm.out _ Stay.drew) (Or.inl ⟨by rfl, fun W hW => ?_⟩) ?_
              · have k0 := HE1.out W hW
                go_simp
              conv =>
                arg 8
                simp [Act.put]
              refine wpAnyH_takeL (i := 7) (v := .int .u64 (IntKind.u64.wrap mo)) #[true, true, true, true, true, true, true, true, false, true, false, false, false] rfl (by kernel_rfl) (by kernel_rfl) (by kernel_rfl) (fun _ _ _ h => h) (by kernel_rfl) (HSm.out _ Stay.drew) (Or.inl ⟨by rfl, fun W hW => ?_⟩) ?_
              · go_simp
              conv =>
                arg 8
                simp [Act.put]
              refine wpAnyH_one #[true, true, true, true, true, true, true, true, true, true, false, false, false] (i := 8) rfl (by kernel_rfl) (by kernel_rfl) (fun K hK => ?_)
              go_simp
              go_wp2_with (
                go_at_call 8
                refine (ruint_at (fun k => w.heap.size ≤ k ∧ k ≠ q) _ p s (IntKind.u64.wrap mo).toNat _ (by have := wrap_u64_nonneg mo; omega) HRA.out).mono ?_
                rintro e w6 ⟨rfl, hr6, hs6⟩
                rw [HT.out] at hr6
                skip
                skip
                have HR6 := Lib.hid hr6
                have HS6 := Lib.hid hs6
                have HS6' := Lib.hid (show Stay (fun k => k = p ∨ k = q) wA w6 from Stay.drew.trans (hs6.mono (fun k y => .inl y)))
                clear hr6 hs6)
              rw [HT.out]
              unfold u64V
              refine hK _ _ ?_ ?_
              · exact HSm.out _ HS6'.out
              conv =>
                arg 8
                simp [Act.put]
              refine wpAnyH_takeL (i := 10) (v := .bool true) #[true, true, true, true, true, true, true, true, true, true, true, false, false] rfl (by kernel_rfl) (by kernel_rfl) (by kernel_rfl) (fun _ _ _ h => h) (by kernel_rfl) (HSm.out _ HS6'.out) (Or.inl ⟨by rfl, fun W hW => ?_⟩) ?_
              · go_simp
              conv =>
                arg 8
                simp [Act.put]
              refine wpAnyH_one #[true, true, true, true, true, true, true, true, true, true, true, true, false] (i := 11) rfl (by kernel_rfl) (by kernel_rfl) (fun K hK => ?_)
              refine step_store_mid rfl 27 (.tmp 6) (.tmp 69) rfl (q) 0 rfl 27 _ [.slice a5 s5.b.length c5, .int .i64 (s5.err : Int)] rfl (show w6.heap[q]? = some (.cells [.slice ax s.b.length cx, .int .i64 (s.err : Int)].toArray _ (0, 0)) from (HS6.out.block _ (lt_of_block HINA.out.b) (fun (y : q = p) => HINA.out.r.own.2 y.symm)).trans HINA.out.b) (by kernel_rfl) (Nat.le_refl _) (by intro v hv; simp at hv; rcases hv with rfl | rfl <;> rfl) ?_
              intro w7 hb7 hs7
              have HB7 := Lib.hid hb7
              have HS7 := Lib.hid hs7
              have HS7' := Lib.hid (show Stay (fun k => k = p ∨ k = q) wA w7 from HS6'.out.trans (hs7.mono (fun k y => .inr y)))
              clear hb7 hs7
              refine hK _ _ ?_ ?_
              · exact HSm.out _ HS7'.out
              conv =>
                arg 8
                simp [Act.put]
              refine wpAnyH_takeL (i := 12) (v := .bool true) #[true, true, true, true, true, true, true, true, true, true, true, true, true] rfl (by kernel_rfl) (by kernel_rfl) (by kernel_rfl) (fun _ _ _ h => h) (by kernel_rfl) (HSm.out _ HS7'.out) (Or.inl ⟨by rfl, fun W hW => ?_⟩) ?_
              · go_simp
              conv =>
                arg 8
                simp [Act.put]
              refine wpAnyH_done (by kernel_rfl) ?_ _
              have INV7 := Lib.hid (AskInv.next INV.out (HSA.out.trans Stay.drew) (HSUB.out.stay0 Stay.drew) HLE.out HR6.out HS6.out HB7.out HS7.out)
              go_wp2
              obtain ⟨D, hDd⟩ : ∃ D : World → Prop, D = fun W => AskInv w W p q s5 (.slice a5 s5.b.length c5) := ⟨_, rfl⟩
              have HD := Lib.hid (show ∀ W, D W → AskInv w W p q s5 (.slice a5 s5.b.length c5) by intro W h; rw [hDd] at h; exact h)
              have HDm := Lib.hid (show ∀ W, AskInv w W p q s5 (.slice a5 s5.b.length c5) → D W by intro W h; rw [hDd]; exact h)
              clear hDd
              have HN := Lib.hid (HDm.out w7.drew (INV7.out.stay0 Stay.drew))
              have k1 := fun j : InC D => (two_cells (HD.out _ j.h).b).1
              have k2 := fun j : InC D => (two_cells (HD.out _ j.h).b).2.1
              have H1 := Lib.hid (show ∀ W, D W → Calls Tryd.prog 21 #[.pointer (some ⟨p, 0, none⟩)] W fun e w' => e = .returned (errV (doneB s5)) ∧ D w' from fun W h => (rdone_any _ _ p s5 (HD.out W h).r).mono fun e w' ⟨h1, h2⟩ => ⟨h1, h2 ▸ h⟩)
              have H2 := Lib.hid (show ∀ W, D W → Calls Tryd.prog 23 #[.pointer (some ⟨p, 0, none⟩)] W fun e w' => e = .returned (errV s5.err) ∧ D w' from fun W h => (err_any _ _ p s5 (HD.out W h).r).mono fun e w' ⟨h1, h2⟩ => ⟨h1, h2 ▸ h⟩)
              have H3 := Lib.hid (show ∀ c : Nat, ∀ W, D W → Calls Tryd.prog 20 #[errV c] W fun e w' => e = .returned (.int .i64 (c : Int)) ∧ D w' from fun c W h => (num_err c _ (ErrCell.stay0 HG.out (HD.out W h).st)).mono fun e w' ⟨h1, h2⟩ => ⟨h1, HDm.out _ ((HD.out W h).stay0 h2)⟩)
              have H4 := Lib.hid (show ∀ W, D W → Calls Tryd.prog 22 #[.agg #[.slice a5 s5.b.length c5, .int .i64 (s5.err : Int)]] W fun e w' => e = .returned (.int .i64 (doneB s5 : Nat)) ∧ D w' from fun W h => (rdone_agg s5 _ _ (HD.out W h).l).mono fun e w' ⟨h1, h2⟩ => ⟨h1, HDm.out _ ((HD.out W h).stay0 h2)⟩)
              have H5 := Lib.hid (show ∀ W, D W → Calls Tryd.prog 24 #[.pointer (some ⟨p, 0, none⟩)] W fun e w' => e = .returned (.int .i64 (s5.b.length : Int)) ∧ D w' from fun W h => (left_any _ _ p s5 (HD.out W h).r).mono fun e w' ⟨h1, h2⟩ => ⟨h1, h2 ▸ h⟩)
              haveI : Nonempty (InC D) := ⟨⟨_, HN.out⟩⟩
              refine wp_region_class D HN.out (by kernel_rfl) (by kernel_rfl) ?_
              repeat (go_big_quiet_step ((first
                | with_reducible exact calls_class H1.out
                | with_reducible exact calls_class H2.out
                | with_reducible exact calls_class (H3.out _)
                | with_reducible exact calls_class H4.out
                | with_reducible exact calls_class H5.out)))
              refine wpQuiet_nil ?_
              rintro W ⟨j, rfl⟩
              have hend := HD.out _ j.h
              clear k1 k2
              generalize j.w = w9 at *
              have HEND := Lib.hid hend
              clear hend
              go_wp2
              go_roundw
              case rel => exact ⟨i + 1, s5, _, by omega, by omega, by go_num, HEND.out⟩
              case measure => simp [intOf]; omega
          · as_aux_lemma =>
              go_simp
              refine hK _ _ ?_ ?_
              · exact HSm.out _ (Stay.drew.trans (Stay.alloc _ _))
              conv =>
                arg 8
                simp [Act.put]
              refine wpAnyH_one #[true, true, true, true, true, true, true, true, false, false, false, true, false, false] (i := 7) rfl (by kernel_rfl) (by kernel_rfl) (fun K hK => ?_)
              go_simp
              go_wp2_with (
                go_at_call 7
                refine (rruint_at s.b s.err (IntKind.u64.wrap mo).toNat _ _ _ _ (by have := wrap_u64_nonneg mo; omega) rfl ((INV.out.l.stay0 Stay.drew).stay0 (Stay.alloc _ _)) (by have := wrap_u64_le mo; unfold M64; omega)).mono ?_
                rintro e w5 ⟨hret, hs5⟩
                rw [show (⟨s.b, s.err⟩ : RS) = s from rfl, HT.out] at hret
                obtain ⟨x5, rfl, hsub5⟩ := hret
                obtain ⟨a5, c5, rfl, _⟩ := id hsub5.1
                have HB5 := Lib.hid ((hs5.block _ (by simp) (fun y => y)).trans (heap_alloc_new wr.drew _))
                have HS5 := Lib.hid (show Stay (fun _ => False) wr w5 from (Stay.drew.trans (Stay.alloc _ _)).trans hs5)
                have HSU5 := Lib.hid hsub5
                clear hs5 hsub5)
              unfold rdV u64V
              refine hK _ _ ?_ ?_
              · exact HSm.out _ HS5.out
              conv =>
                arg 8
                simp [Act.put]
              refine wpAnyH_takeL (i := 8) (v := .tuple #[.agg #[.slice a5 s5.b.length c5, .int .i64 (s5.err : Int)], .int .u64 (n5 : Int)]) #[true, true, true, true, true, true, true, true, true, false, false, true, false, false] rfl (by kernel_rfl) (by kernel_rfl) (by kernel_rfl) (fun _ _ _ h => h) (by kernel_rfl) (HSm.out _ HS5.out) (Or.inl ⟨by rfl, fun W hW => ?_⟩) ?_
              · go_simp
              conv =>
                arg 8
                simp [Act.put]
              refine wpAnyH_takeL (i := 9) (v := .agg #[.slice a5 s5.b.length c5, .int .i64 (s5.err : Int)]) #[true, true, true, true, true, true, true, true, true, true, false, true, false, false] rfl (by kernel_rfl) (by kernel_rfl) (by kernel_rfl) (fun _ _ _ h => h) (by kernel_rfl) (HSm.out _ HS5.out) (Or.inl ⟨by rfl, fun W hW => ?_⟩) ?_
              · go_simp
              conv =>
                arg 8
                simp [Act.put]
              refine wpAnyH_takeL (i := 10) (v := .int .u64 (n5 : Int)) #[true, true, true, true, true, true, true, true, true, true, true, true, false, false] rfl (by kernel_rfl) (by kernel_rfl) (by kernel_rfl) (fun _ _ _ h => h) (by kernel_rfl) (HSm.out _ HS5.out) (Or.inl ⟨by rfl, fun W hW => ?_⟩) ?_
              · go_simp
              conv =>
                arg 8
                simp [Act.put]
              refine wpAnyH_one #[true, true, true, true, true, true, true, true, true, true, true, true, true, false] (i := 12) rfl (by kernel_rfl) (by kernel_rfl) (fun K hK => ?_)
              refine step_store_mid rfl 27 (.tmp 9) (.tmp 67) rfl (wr.heap.size) 0 rfl 27 _ [.slice a5 s5.b.length c5, .int .i64 (s5.err : Int)] rfl HB5.out (by kernel_rfl) (Nat.le_refl _) (by intro v hv; simp at hv; rcases hv with rfl | rfl <;> rfl) ?_
              intro wA hbA hsA
              have HBX := Lib.hid (show wA.heap[wr.heap.size]? = some (.cells #[.slice a5 s5.b.length c5, .int .i64 (s5.err : Int)] 27 (0, 0)) from hbA)
              have hlow := Lib.hid (show Stay (fun k => wr.heap.size ≤ k) w5 wA from hsA.mono (fun k (y : k = _) => by omega))
              have HSA := Lib.hid (show Stay (fun _ => False) wr wA from stay_seal (X := fun k => wr.heap.size ≤ k) ((HS5.out.mono (fun _ y => y.elim)).trans hlow.out) (fun _ hk => hk))
              have HSUB := Lib.hid (show Sub wA (.slice ax s.b.length cx) (.slice a5 s5.b.length c5) s5.b from ⟨slc_stayE HSU5.out.1 hlow.out (fun h0 k e hB => by have h1 := INV.out.xb (by have := HLE.out; omega) k (HSU5.out.2 k e); have h2 := INV.out.st.size; omega), HSU5.out.2⟩)
              have HGL := Lib.hid (show wr.heap.size ≤ wr.heap.size by have := HS5.out.size; omega)
              clear hbA hsA
              refine hK _ _ ?_ ?_
              · exact HSm.out _ HSA.out
              conv =>
                arg 8
                simp [Act.put]
              refine wpAnyH_takeL (i := 13) (v := .int .u64 (n5 : Int)) #[true, true, true, true, true, true, true, true, true, true, true, true, true, true] rfl (by kernel_rfl) (by kernel_rfl) (by kernel_rfl) (fun _ _ _ h => h) (by kernel_rfl) (HSm.out _ HSA.out) (Or.inl ⟨by rfl, fun W hW => ?_⟩) ?_
              · go_simp
              conv =>
                arg 8
                simp [Act.put]
              refine wpAnyH_done (by kernel_rfl) ?_ _
              clear HQ0 HQ1 HE0 HS HSm
              have HINA := Lib.hid (INV.out.stay0 HSA.out)
              have hgp : ¬ (wr.heap.size = p ∨ wr.heap.size = q) := by have h1 := RdAt.lt INV.out.r; have h2 := lt_of_block INV.out.b; have h3 := HGL.out; omega
              obtain ⟨S, hSd⟩ : ∃ S : World → Prop, S = Stay (fun k => k = p ∨ k = q) wA := ⟨_, rfl⟩
              have HS := Lib.hid (show ∀ W, S W → Stay (fun k => k = p ∨ k = q) wA W by intro W h; rw [hSd] at h; exact h)
              have HSm := Lib.hid (show ∀ W, Stay (fun k => k = p ∨ k = q) wA W → S W by intro W h; rw [hSd]; exact h)
              clear hSd
              have HG0 := Lib.hid (fun W (h : S W) => (two_cells (((HS.out W h).block _ (lt_of_block HBX.out) hgp).trans HBX.out)).1)
              have HG1 := Lib.hid (fun W (h : S W) => (two_cells (((HS.out W h).block _ (lt_of_block HBX.out) hgp).trans HBX.out)).2.1)
              have HE1 := Lib.hid (show ∀ W, S W → W.cell? ⟨lb, lo + i * 2 + 1, none⟩ = some (.int .i64 mo) from fun W h => (HS.out W h).cell (HINA.out.st.cell HC1.out (fun y => y)) (fun y => by have h1 := HINA.out.r.own.1; have h2 := HINA.out.qge; rcases y with y | y <;> (have y' : lb = _ := y; omega)))
              have HRA := Lib.hid (HINA.out.r.stay0 Stay.drew)
              clear hgp
              go_wp2
              refine wp_region_held (S := S) (by kernel_rfl) ?_
              change wpAnyH _ _ _ _ _ _ _ _ (World.drew _)
              refine wpAnyH_takeL (i := 0) (v := .agg #[.slice a5 s5.b.length c5, .int .i64 (s5.err : Int)]) #[true, false, false, false, false, false, false, false, false, false, false, false, false] rfl (by kernel_rfl) (by kernel_rfl) (by kernel_rfl) (fun _ _ _ h => h) (by kernel_rfl) (HSm.out _ Stay.drew) (Or.inl ⟨by rfl, fun W hW => ?_⟩) ?_
              · have k0 := HG0.out W hW
                have k1 := HG1.out W hW
                go_simp
              conv =>
                arg 8
                simp [Act.put]
              refine wpAnyH_takeL (i := 1) (v := .pointer (some ⟨p, 0, none⟩)) #[true, true, false, false, false, false, false, false, false, false, false, false, false] rfl (by kernel_rfl) (by kernel_rfl) (by kernel_rfl) (fun _ _ _ h => h) (by kernel_rfl) (HSm.out _ Stay.drew) (Or.inl ⟨by rfl, fun W hW => ?_⟩) ?_
              · go_simp
              conv =>
                arg 8
                simp [Act.put]
              refine wpAnyH_takeL (i := 2) (v := .slice (some ⟨lb, lo, none⟩) L.length c1) #[true, true, true, false, false, false, false, false, false, false, false, false, false] rfl (by kernel_rfl) (by kernel_rfl) (by kernel_rfl) (fun _ _ _ h => h) (by kernel_rfl) (HSm.out _ Stay.drew) (Or.inl ⟨by rfl, fun W hW => ?_⟩) ?_
              · go_simp
              conv =>
                arg 8
                simp [Act.put]
              refine wpAnyH_takeL (i := 3) (v := .int .i64 (i : Int)) #[true, true, true, true, false, false, false, false, false, false, false, false, false] rfl (by kernel_rfl) (by kernel_rfl) (by kernel_rfl) (fun _ _ _ h => h) (by kernel_rfl) (HSm.out _ Stay.drew) (Or.inl ⟨by rfl, fun W hW => ?_⟩) ?_
              · go_simp
              conv =>
                arg 8
                simp [Act.put]
              refine wpAnyH_takeL (i := 9) (v := .int .u64 (n5 : Int)) #[true, true, true, true, false, false, false, false, false, true, false, false, false] rfl (by kernel_rfl) (by kernel_rfl) (by kernel_rfl) (fun _ _ _ h => h) (by kernel_rfl) (HSm.out _ Stay.drew) (Or.inl ⟨by rfl, fun W hW => ?_⟩) ?_
              · go_simp
              conv =>
                arg 8
                simp [Act.put]
              refine wpAnyH_takeL (i := 4) (v := .pointer (some ⟨lb, lo + i * 2, none⟩)) #[true, true, true, true, true, false, false, false, false, true, false, false, false] rfl (by kernel_rfl) (by kernel_rfl) (by kernel_rfl) (fun _ _ _ h => h) (by kernel_rfl) (HSm.out _ Stay.drew) (Or.inl ⟨by rfl, fun W hW => ?_⟩) ?_
              · go_simp
              conv =>
                arg 8
                simp [Act.put]
              refine wpAnyH_takeL (i := 5) (v := .pointer (some ⟨lb, lo + i * 2 + 1, none⟩)) #[true, true, true, true, true, true, false, false, false, true, false, false, false] rfl (by kernel_rfl) (by kernel_rfl) (by kernel_rfl) (fun _ _ _ h => h) (by kernel_rfl) (HSm.out _ Stay.drew) (Or.inl ⟨by rfl, fun W hW => ?_⟩) ?_
              · go_simp
              conv =>
                arg 8
                simp [Act.put]
              refine wpAnyH_takeL (i := 6) (v := .int .i64 mo) #[true, true, true, true, true, true, true, false, false, true, false, false, false] rfl (by kernel_rfl) (by kernel_rfl) (by kernel_rfl) (fun _ _ _ h => h) (by kernel_rfl) (HSm.out _ Stay.drew) (Or.inl ⟨by rfl, fun W hW => ?_⟩) ?_
              · have k0 := HE1.out W hW
                go_simp
              conv =>
                arg 8
                simp [Act.put]
              refine wpAnyH_takeL (i := 7) (v := .int .u64 (IntKind.u64.wrap mo)) #[true, true, true, true, true, true, true, true, false, true, false, false, false] rfl (by kernel_rfl) (by kernel_rfl) (by kernel_rfl) (fun _ _ _ h => h) (by kernel_rfl) (HSm.out _ Stay.drew) (Or.inl ⟨by rfl, fun W hW => ?_⟩) ?_
              · go_simp
              conv =>
                arg 8
                simp [Act.put]
              refine wpAnyH_one #[true, true, true, true, true, true, true, true, true, true, false, false, false] (i := 8) rfl (by kernel_rfl) (by kernel_rfl) (fun K hK => ?_)
              go_simp
              go_wp2_with (
                go_at_call 8
                refine (ruint_at (fun k => w.heap.size ≤ k ∧ k ≠ q) _ p s (IntKind.u64.wrap mo).toNat _ (by have := wrap_u64_nonneg mo; omega) HRA.out).mono ?_
                rintro e w6 ⟨rfl, hr6, hs6⟩
                rw [HT.out] at hr6
                skip
                skip
                have HR6 := Lib.hid hr6
                have HS6 := Lib.hid hs6
                have HS6' := Lib.hid (show Stay (fun k => k = p ∨ k = q) wA w6 from Stay.drew.trans (hs6.mono (fun k y => .inl y)))
                clear hr6 hs6)
              rw [HT.out]
              unfold u64V
              refine hK _ _ ?_ ?_
              · exact HSm.out _ HS6'.out
              conv =>
                arg 8
                simp [Act.put]
              refine wpAnyH_takeL (i := 10) (v := .bool true) #[true, true, true, true, true, true, true, true, true, true, true, false, false] rfl (by kernel_rfl) (by kernel_rfl) (by kernel_rfl) (fun _ _ _ h => h) (by kernel_rfl) (HSm.out _ HS6'.out) (Or.inl ⟨by rfl, fun W hW => ?_⟩) ?_
              · go_simp
              conv =>
                arg 8
                simp [Act.put]
              refine wpAnyH_one #[true, true, true, true, true, true, true, true, true, true, true, true, false] (i := 11) rfl (by kernel_rfl) (by kernel_rfl) (fun K hK => ?_)
              refine step_store_mid rfl 27 (.tmp 6) (.tmp 69) rfl (q) 0 rfl 27 _ [.slice a5 s5.b.length c5, .int .i64 (s5.err : Int)] rfl (show w6.heap[q]? = some (.cells [.slice ax s.b.length cx, .int .i64 (s.err : Int)].toArray _ (0, 0)) from (HS6.out.block _ (lt_of_block HINA.out.b) (fun (y : q = p) => HINA.out.r.own.2 y.symm)).trans HINA.out.b) (by kernel_rfl) (Nat.le_refl _) (by intro v hv; simp at hv; rcases hv with rfl | rfl <;> rfl) ?_
              intro w7 hb7 hs7
              have HB7 := Lib.hid hb7
              have HS7 := Lib.hid hs7
              have HS7' := Lib.hid (show Stay (fun k => k = p ∨ k = q) wA w7 from HS6'.out.trans (hs7.mono (fun k y => .inr y)))
              clear hb7 hs7
              refine hK _ _ ?_ ?_
              · exact HSm.out _ HS7'.out
              conv =>
                arg 8
                simp [Act.put]
              refine wpAnyH_takeL (i := 12) (v := .bool true) #[true, true, true, true, true, true, true, true, true, true, true, true, true] rfl (by kernel_rfl) (by kernel_rfl) (by kernel_rfl) (fun _ _ _ h => h) (by kernel_rfl) (HSm.out _ HS7'.out) (Or.inl ⟨by rfl, fun W hW => ?_⟩) ?_
              · go_simp
              conv =>
                arg 8
                simp [Act.put]
              refine wpAnyH_done (by kernel_rfl) ?_ _
              have INV7 := Lib.hid (AskInv.next INV.out (HSA.out.trans Stay.drew) (HSUB.out.stay0 Stay.drew) HLE.out HR6.out HS6.out HB7.out HS7.out)
              go_wp2
              obtain ⟨D, hDd⟩ : ∃ D : World → Prop, D = fun W => AskInv w W p q s5 (.slice a5 s5.b.length c5) := ⟨_, rfl⟩
              have HD := Lib.hid (show ∀ W, D W → AskInv w W p q s5 (.slice a5 s5.b.length c5) by intro W h; rw [hDd] at h; exact h)
              have HDm := Lib.hid (show ∀ W, AskInv w W p q s5 (.slice a5 s5.b.length c5) → D W by intro W h; rw [hDd]; exact h)
              clear hDd
              have HN := Lib.hid (HDm.out w7.drew (INV7.out.stay0 Stay.drew))
              have k1 := fun j : InC D => (two_cells (HD.out _ j.h).b).1
              have k2 := fun j : InC D => (two_cells (HD.out _ j.h).b).2.1
              have H1 := Lib.hid (show ∀ W, D W → Calls Tryd.prog 21 #[.pointer (some ⟨p, 0, none⟩)] W fun e w' => e = .returned (errV (doneB s5)) ∧ D w' from fun W h => (rdone_any _ _ p s5 (HD.out W h).r).mono fun e w' ⟨h1, h2⟩ => ⟨h1, h2 ▸ h⟩)
              have H2 := Lib.hid (show ∀ W, D W → Calls Tryd.prog 23 #[.pointer (some ⟨p, 0, none⟩)] W fun e w' => e = .returned (errV s5.err) ∧ D w' from fun W h => (err_any _ _ p s5 (HD.out W h).r).mono fun e w' ⟨h1, h2⟩ => ⟨h1, h2 ▸ h⟩)
              have H3 := Lib.hid (show ∀ c : Nat, ∀ W, D W → Calls Tryd.prog 20 #[errV c] W fun e w' => e = .returned (.int .i64 (c : Int)) ∧ D w' from fun c W h => (num_err c _ (ErrCell.stay0 HG.out (HD.out W h).st)).mono fun e w' ⟨h1, h2⟩ => ⟨h1, HDm.out _ ((HD.out W h).stay0 h2)⟩)
              have H4 := Lib.hid (show ∀ W, D W → Calls Tryd.prog 22 #[.agg #[.slice a5 s5.b.length c5, .int .i64 (s5.err : Int)]] W fun e w' => e = .returned (.int .i64 (doneB s5 : Nat)) ∧ D w' from fun W h => (rdone_agg s5 _ _ (HD.out W h).l).mono fun e w' ⟨h1, h2⟩ => ⟨h1, HDm.out _ ((HD.out W h).stay0 h2)⟩)
              have H5 := Lib.hid (show ∀ W, D W → Calls Tryd.prog 24 #[.pointer (some ⟨p, 0, none⟩)] W fun e w' => e = .returned (.int .i64 (s5.b.length : Int)) ∧ D w' from fun W h => (left_any _ _ p s5 (HD.out W h).r).mono fun e w' ⟨h1, h2⟩ => ⟨h1, h2 ▸ h⟩)
              haveI : Nonempty (InC D) := ⟨⟨_, HN.out⟩⟩
              refine wp_region_class D HN.out (by kernel_rfl) (by kernel_rfl) ?_
              repeat (go_big_quiet_step ((first
                | with_reducible exact calls_class H1.out
                | with_reducible exact calls_class H2.out
                | with_reducible exact calls_class (H3.out _)
                | with_reducible exact calls_class H4.out
                | with_reducible exact calls_class H5.out)))
              refine wpQuiet_nil ?_
              rintro W ⟨j, rfl⟩
              have hend := HD.out _ j.h
              clear k1 k2
              generalize j.w = w9 at *
              have HEND := Lib.hid hend
              clear hend
              go_wp2
              go_roundw
              case rel => exact ⟨i + 1, s5, _, by omega, by omega, by go_num, HEND.out⟩
              case measure => simp [intOf]; omega
      · as_aux_lemma =>
          obtain ⟨⟨n5, s5⟩, ht⟩ : ∃ t, takeB sigB 0 s = t := ⟨_, rfl⟩
          have HT := Lib.hid ht
          have HLE := Lib.hid (show s5.b.length ≤ s.b.length by have := takeB_len (rule := sigB) (zero := 0) (s := s) (fun _ _ h => sigB_len h); rw [ht] at this; exact this)
          clear ht
          go_wp2_with fail
          refine (rrint_at s.b s.err _ _ _ rfl INV.out.l).mono ?_
          rintro e w5 ⟨hret, hs5⟩
          rw [show (⟨s.b, s.err⟩ : RS) = s from rfl, HT.out] at hret
          obtain ⟨x5, rfl, hsub5⟩ := hret
          obtain ⟨a5, c5, rfl, _⟩ := id hsub5.1
          unfold rdV i64V
          have HSA := Lib.hid (show Stay (fun _ => False) wr (w5.alloc (.cells #[.slice a5 s5.b.length c5, .int .i64 (s5.err : Int)] 27)) from hs5.trans (Stay.alloc _ _))
          have HBX := Lib.hid (heap_alloc_new w5 (.cells #[.slice a5 s5.b.length c5, .int .i64 (s5.err : Int)] 27))
          have HSUB := Lib.hid (hsub5.stay0 (Stay.alloc w5 (.cells #[.slice a5 s5.b.length c5, .int .i64 (s5.err : Int)] 27)))
          have HGL := Lib.hid hs5.size
          clear hs5 hsub5
          go_wp2_with fail
          generalize w5.alloc (.cells #[.slice a5 s5.b.length c5, .int .i64 (s5.err : Int)] 27) = wA at HSA HBX HSUB ⊢
          have HINA := Lib.hid (INV.out.stay0 HSA.out)
          have hgp : ¬ (w5.heap.size = p ∨ w5.heap.size = q) := by have h1 := RdAt.lt INV.out.r; have h2 := lt_of_block INV.out.b; have h3 := HGL.out; omega
          obtain ⟨S, hSd⟩ : ∃ S : World → Prop, S = Stay (fun k => k = p ∨ k = q) wA := ⟨_, rfl⟩
          have HS := Lib.hid (show ∀ W, S W → Stay (fun k => k = p ∨ k = q) wA W by intro W h; rw [hSd] at h; exact h)
          have HSm := Lib.hid (show ∀ W, Stay (fun k => k = p ∨ k = q) wA W → S W by intro W h; rw [hSd]; exact h)
          clear hSd
          have HG0 := Lib.hid (fun W (h : S W) => (two_cells (((HS.out W h).block _ (lt_of_block HBX.out) hgp).trans HBX.out)).1)
          have HG1 := Lib.hid (fun W (h : S W) => (two_cells (((HS.out W h).block _ (lt_of_block HBX.out) hgp).trans HBX.out)).2.1)
          have HE1 := Lib.hid (show ∀ W, S W → W.cell? ⟨lb, lo + i * 2 + 1, none⟩ = some (.int .i64 mo) from fun W h => (HS.out W h).cell (HINA.out.st.cell HC1.out (fun y => y)) (fun y => by have h1 := HINA.out.r.own.1; have h2 := HINA.out.qge; rcases y with y | y <;> (have y' : lb = _ := y; omega)))
          have HRA := Lib.hid (HINA.out.r.stay0 Stay.drew)
          clear hgp
          go_wp2
          refine wp_region_held (S := S) (by kernel_rfl) ?_
          change wpAnyH _ _ _ _ _ _ _ _ (World.drew _)
          refine wpAnyH_takeL (i := 0) (v := .agg #[.slice a5 s5.b.length c5, .int .i64 (s5.err : Int)]) #[true, false, false, false, false, false, false] rfl (by kernel_rfl) (by kernel_rfl) (by kernel_rfl) (fun _ _ _ h => h) (by kernel_rfl) (HSm.out _ Stay.drew) (Or.inl ⟨by rfl, fun W hW => ?_⟩) ?_
          · have k0 := HG0.out W hW
            have k1 := HG1.out W hW
            go_simp
          conv =>
            arg 8
            simp [Act.put]
          refine wpAnyH_takeL (i := 1) (v := .pointer (some ⟨p, 0, none⟩)) #[true, true, false, false, false, false, false] rfl (by kernel_rfl) (by kernel_rfl) (by kernel_rfl) (fun _ _ _ h => h) (by kernel_rfl) (HSm.out _ Stay.drew) (Or.inl ⟨by rfl, fun W hW => ?_⟩) ?_
          · go_simp
          conv =>
            arg 8
            simp [Act.put]
          refine wpAnyH_takeL (i := 3) (v := .int .i64 n5) #[true, true, false, true, false, false, false] rfl (by kernel_rfl) (by kernel_rfl) (by kernel_rfl) (fun _ _ _ h => h) (by kernel_rfl) (HSm.out _ Stay.drew) (Or.inl ⟨by rfl, fun W hW => ?_⟩) ?_
          · go_simp
          conv =>
            arg 8
            simp [Act.put]
          refine wpAnyH_one #[true, true, true, true, false, false, false] (i := 2) rfl (by kernel_rfl) (by kernel_rfl) (fun K hK => ?_)
          go_simp
          go_wp2_with (
            go_at_call 10
            refine (rint_any (fun k => w.heap.size ≤ k ∧ k ≠ q) _ p s HRA.out).mono ?_
            rintro e w6 ⟨rfl, hr6, hs6⟩
            rw [HT.out] at hr6
            skip
            skip
            have HR6 := Lib.hid hr6
            have HS6 := Lib.hid hs6
            have HS6' := Lib.hid (show Stay (fun k => k = p ∨ k = q) wA w6 from Stay.drew.trans (hs6.mono (fun k y => .inl y)))
            clear hr6 hs6)
          rw [HT.out]
          unfold i64V
          refine hK _ _ ?_ ?_
          · exact HSm.out _ HS6'.out
          conv =>
            arg 8
            simp [Act.put]
          refine wpAnyH_takeL (i := 4) (v := .bool true) #[true, true, true, true, true, false, false] rfl (by kernel_rfl) (by kernel_rfl) (by kernel_rfl) (fun _ _ _ h => h) (by kernel_rfl) (HSm.out _ HS6'.out) (Or.inl ⟨by rfl, fun W hW => ?_⟩) ?_
          · go_simp
          conv =>
            arg 8
            simp [Act.put]
          refine wpAnyH_one #[true, true, true, true, true, true, false] (i := 5) rfl (by kernel_rfl) (by kernel_rfl) (fun K hK => ?_)
          refine step_store_mid rfl 27 (.tmp 6) (.tmp 87) rfl (q) 0 rfl 27 _ [.slice a5 s5.b.length c5, .int .i64 (s5.err : Int)] rfl (show w6.heap[q]? = some (.cells [.slice ax s.b.length cx, .int .i64 (s.err : Int)].toArray _ (0, 0)) from (HS6.out.block _ (lt_of_block HINA.out.b) (fun (y : q = p) => HINA.out.r.own.2 y.symm)).trans HINA.out.b) (by kernel_rfl) (Nat.le_refl _) (by intro v hv; simp at hv; rcases hv with rfl | rfl <;> rfl) ?_
          intro w7 hb7 hs7
          have HB7 := Lib.hid hb7
          have HS7 := Lib.hid hs7
          have HS7' := Lib.hid (show Stay (fun k => k = p ∨ k = q) wA w7 from HS6'.out.trans (hs7.mono (fun k y => .inr y)))
          clear hb7 hs7
          refine hK _ _ ?_ ?_
          · exact HSm.out _ HS7'.out
          conv =>
            arg 8
            simp [Act.put]
          refine wpAnyH_takeL (i := 6) (v := .bool true) #[true, true, true, true, true, true, true] rfl (by kernel_rfl) (by kernel_rfl) (by kernel_rfl) (fun _ _ _ h => h) (by kernel_rfl) (HSm.out _ HS7'.out) (Or.inl ⟨by rfl, fun W hW => ?_⟩) ?_
          · go_simp
          conv =>
            arg 8
            simp [Act.put]
          refine wpAnyH_done (by kernel_rfl) ?_ _
          have INV7 := Lib.hid (AskInv.next INV.out (HSA.out.trans Stay.drew) (HSUB.out.stay0 Stay.drew) HLE.out HR6.out HS6.out HB7.out HS7.out)
          go_wp2
          obtain ⟨D, hDd⟩ : ∃ D : World → Prop, D = fun W => AskInv w W p q s5 (.slice a5 s5.b.length c5) := ⟨_, rfl⟩
          have HD := Lib.hid (show ∀ W, D W → AskInv w W p q s5 (.slice a5 s5.b.length c5) by intro W h; rw [hDd] at h; exact h)
          have HDm := Lib.hid (show ∀ W, AskInv w W p q s5 (.slice a5 s5.b.length c5) → D W by intro W h; rw [hDd]; exact h)
          clear hDd
          have HN := Lib.hid (HDm.out w7.drew (INV7.out.stay0 Stay.drew))
          have k1 := fun j : InC D => (two_cells (HD.out _ j.h).b).1
          have k2 := fun j : InC D => (two_cells (HD.out _ j.h).b).2.1
          have H1 := Lib.hid (show ∀ W, D W → Calls Tryd.prog 21 #[.pointer (some ⟨p, 0, none⟩)] W fun e w' => e = .returned (errV (doneB s5)) ∧ D w' from fun W h => (rdone_any _ _ p s5 (HD.out W h).r).mono fun e w' ⟨h1, h2⟩ => ⟨h1, h2 ▸ h⟩)
          have H2 := Lib.hid (show ∀ W, D W → Calls Tryd.prog 23 #[.pointer (some ⟨p, 0, none⟩)] W fun e w' => e = .returned (errV s5.err) ∧ D w' from fun W h => (err_any _ _ p s5 (HD.out W h).r).mono fun e w' ⟨h1, h2⟩ => ⟨h1, h2 ▸ h⟩)
          have H3 := Lib.hid (show ∀ c : Nat, ∀ W, D W → Calls Tryd.prog 20 #[errV c] W fun e w' => e = .returned (.int .i64 (c : Int)) ∧ D w' from fun c W h => (num_err c _ (ErrCell.stay0 HG.out (HD.out W h).st)).mono fun e w' ⟨h1, h2⟩ => ⟨h1, HDm.out _ ((HD.out W h).stay0 h2)⟩)
          have H4 := Lib.hid (show ∀ W, D W → Calls Tryd.prog 22 #[.agg #[.slice a5 s5.b.length c5, .int .i64 (s5.err : Int)]] W fun e w' => e = .returned (.int .i64 (doneB s5 : Nat)) ∧ D w' from fun W h => (rdone_agg s5 _ _ (HD.out W h).l).mono fun e w' ⟨h1, h2⟩ => ⟨h1, HDm.out _ ((HD.out W h).stay0 h2)⟩)
          have H5 := Lib.hid (show ∀ W, D W → Calls Tryd.prog 24 #[.pointer (some ⟨p, 0, none⟩)] W fun e w' => e = .returned (.int .i64 (s5.b.length : Int)) ∧ D w' from fun W h => (left_any _ _ p s5 (HD.out W h).r).mono fun e w' ⟨h1, h2⟩ => ⟨h1, h2 ▸ h⟩)
          haveI : Nonempty (InC D) := ⟨⟨_, HN.out⟩⟩
          refine wp_region_class D HN.out (by kernel_rfl) (by kernel_rfl) ?_
          repeat (go_big_quiet_step ((first
            | with_reducible exact calls_class H1.out
            | with_reducible exact calls_class H2.out
            | with_reducible exact calls_class (H3.out _)
            | with_reducible exact calls_class H4.out
            | with_reducible exact calls_class H5.out)))
          refine wpQuiet_nil ?_
          rintro W ⟨j, rfl⟩
          have hend := HD.out _ j.h
          clear k1 k2
          generalize j.w = w9 at *
          have HEND := Lib.hid hend
          clear hend
          go_wp2
          go_roundw
          case rel => exact ⟨i + 1, s5, _, by omega, by omega, by go_num, HEND.out⟩
          case measure => simp [intOf]; omega
      · as_aux_lemma =>
          obtain ⟨⟨n5, s5⟩, ht⟩ : ∃ t, takeB (cntB mo) 0 s = t := ⟨_, rfl⟩
          have HT := Lib.hid ht
          have HLE := Lib.hid (show s5.b.length ≤ s.b.length by have := takeB_len (rule := (cntB mo)) (zero := 0) (s := s) (fun _ _ h => cntB_len h); rw [ht] at this; exact this)
          clear ht
          obtain ⟨S, hSd⟩ : ∃ S : World → Prop, S = Stay (fun k => False) wr := ⟨_, rfl⟩
          have HS := Lib.hid (show ∀ W, S W → Stay (fun k => False) wr W by intro W h; rw [hSd] at h; exact h)
          have HSm := Lib.hid (show ∀ W, Stay (fun k => False) wr W → S W by intro W h; rw [hSd]; exact h)
          clear hSd
          have HQ0 := Lib.hid (fun W (h : S W) => (two_cells (((HS.out W h).block _ (lt_of_block INV.out.b) (fun y => y)).trans INV.out.b)).1)
          have HQ1 := Lib.hid (fun W (h : S W) => (two_cells (((HS.out W h).block _ (lt_of_block INV.out.b) (fun y => y)).trans INV.out.b)).2.1)
          have HE0 := Lib.hid (show ∀ W, S W → W.cell? ⟨lb, lo + i * 2 + 1, none⟩ = some (.int .i64 mo) from fun W h => (HS.out W h).cell (INV.out.st.cell HC1.out (fun y => y)) (fun y => y))
          go_wp2
          refine wp_region_held (S := S) (by kernel_rfl) ?_
          change wpAnyH _ _ _ _ _ _ _ _ (World.drew _)
          refine wpAnyH_takeL (i := 0) (v := .agg #[.slice ax s.b.length cx, .int .i64 (s.err : Int)]) #[true, false, false, false, false, false, false, false, false, false, false, false, false] rfl (by kernel_rfl) (by kernel_rfl) (by kernel_rfl) (fun _ _ _ h => h) (by kernel_rfl) (HSm.out _ Stay.drew) (Or.inl ⟨by rfl, fun W hW => ?_⟩) ?_
          · have k0 := HQ0.out W hW
            have k1 := HQ1.out W hW
            go_simp
          conv =>
            arg 8
            simp [Act.put]
          refine wpAnyH_takeL (i := 1) (v := .slice (some ⟨lb, lo, none⟩) L.length c1) #[true, true, false, false, false, false, false, false, false, false, false, false, false] rfl (by kernel_rfl) (by kernel_rfl) (by kernel_rfl) (fun _ _ _ h => h) (by kernel_rfl) (HSm.out _ Stay.drew) (Or.inl ⟨by rfl, fun W hW => ?_⟩) ?_
          · go_simp
          conv =>
            arg 8
            simp [Act.put]
          refine wpAnyH_takeL (i := 2) (v := .int .i64 (i : Int)) #[true, true, true, false, false, false, false, false, false, false, false, false, false] rfl (by kernel_rfl) (by kernel_rfl) (by kernel_rfl) (fun _ _ _ h => h) (by kernel_rfl) (HSm.out _ Stay.drew) (Or.inl ⟨by rfl, fun W hW => ?_⟩) ?_
          · go_simp
          conv =>
            arg 8
            simp [Act.put]
          refine wpAnyH_takeL (i := 3) (v := .pointer (some ⟨lb, lo + i * 2, none⟩)) #[true, true, true, true, false, false, false, false, false, false, false, false, false] rfl (by kernel_rfl) (by kernel_rfl) (by kernel_rfl) (fun _ _ _ h => h) (by kernel_rfl) (HSm.out _ Stay.drew) (Or.inl ⟨by rfl, fun W hW => ?_⟩) ?_
          · go_simp
          conv =>
            arg 8
            simp [Act.put]
          refine wpAnyH_takeL (i := 4) (v := .pointer (some ⟨lb, lo + i * 2 + 1, none⟩)) #[true, true, true, true, true, false, false, false, false, false, false, false, false] rfl (by kernel_rfl) (by kernel_rfl) (by kernel_rfl) (fun _ _ _ h => h) (by kernel_rfl) (HSm.out _ Stay.drew) (Or.inl ⟨by rfl, fun W hW => ?_⟩) ?_
          · go_simp
          conv =>
            arg 8
            simp [Act.put]
          refine wpAnyH_takeL (i := 5) (v := .int .i64 mo) #[true, true, true, true, true, true, false, false, false, false, false, false, false] rfl (by kernel_rfl) (by kernel_rfl) (by kernel_rfl) (fun _ _ _ h => h) (by kernel_rfl) (HSm.out _ Stay.drew) (Or.inl ⟨by rfl, fun W hW => ?_⟩) ?_
          · have k0 := HE0.out W hW
            go_simp
          conv =>
            arg 8
            simp [Act.put]
          refine wpAnyH_two (i := 6) (j := 10) #[true, true, true, true, true, true, true, false, false, false, false, false, false] #[true, true, true, true, true, true, false, false, false, false, true, false, false] rfl rfl (by kernel_rfl) (by kernel_rfl) (by kernel_rfl) (fun K hK => ?_) (fun K hK => ?_)
          · as_aux_lemma =>
              go_simp
              go_wp2_with (
                go_at_call 11
                refine (rrcount_any s.b s.err mo _ _ (INV.out.l.stay0 Stay.drew) hmo2).mono ?_
                rintro e w5 ⟨hret, hs5⟩
                rw [show (⟨s.b, s.err⟩ : RS) = s from rfl, HT.out] at hret
                obtain ⟨x5, rfl, hsub5⟩ := hret
                obtain ⟨a5, c5, rfl, _⟩ := id hsub5.1
  
                have HS5 := Lib.hid (show Stay (fun _ => False) wr w5 from Stay.drew.trans hs5)
                have HSU5 := Lib.hid hsub5
                clear hs5 hsub5)
              unfold rdV i64V
              refine hK _ _ ?_ ?_
              · exact HSm.out _ HS5.out
              conv =>
                arg 8
                simp [Act.put]
              refine wpAnyH_takeL (i := 7) (v := .tuple #[.agg #[.slice a5 s5.b.length c5, .int .i64 (s5.err : Int)], .int .i64 n5]) #[true, true, true, true, true, true, true, true, false, false, false, false, false] rfl (by kernel_rfl) (by kernel_rfl) (by kernel_rfl) (fun _ _ _ h => h) (by kernel_rfl) (HSm.out _ HS5.out) (Or.inl ⟨by rfl, fun W hW => ?_⟩) ?_
              · go_simp
              conv =>
                arg 8
                simp [Act.put]
              refine wpAnyH_takeL (i := 8) (v := .agg #[.slice a5 s5.b.length c5, .int .i64 (s5.err : Int)]) #[true, true, true, true, true, true, true, true, true, false, false, false, false] rfl (by kernel_rfl) (by kernel_rfl) (by kernel_rfl) (fun _ _ _ h => h) (by kernel_rfl) (HSm.out _ HS5.out) (Or.inl ⟨by rfl, fun W hW => ?_⟩) ?_
              · go_simp
              conv =>
                arg 8
                simp [Act.put]
              refine wpAnyH_takeL (i := 9) (v := .int .i64 n5) #[true, true, true, true, true, true, true, true, true, true, false, false, false] rfl (by kernel_rfl) (by kernel_rfl) (by kernel_rfl) (fun _ _ _ h => h) (by kernel_rfl) (HSm.out _ HS5.out) (Or.inl ⟨by rfl, fun W hW => ?_⟩) ?_
              · go_simp
              conv =>
                arg 8
                simp [Act.put]
              refine wpAnyH_one #[true, true, true, true, true, true, true, true, true, true, true, false, false] (i := 10) rfl (by kernel_rfl) (by kernel_rfl) (fun K hK => ?_)
              go_simp
              refine hK _ _ ?_ ?_
              · exact HSm.out _ (HS5.out.trans (Stay.alloc _ _))
              conv =>
                arg 8
                simp [Act.put]
              refine wpAnyH_one #[true, true, true, true, true, true, true, true, true, true, true, true, false] (i := 11) rfl (by kernel_rfl) (by kernel_rfl) (fun K hK => ?_)
              refine step_store_mid rfl 27 (.tmp 13) (.tmp 102) rfl (w5.heap.size) 0 rfl 27 _ [.slice a5 s5.b.length c5, .int .i64 (s5.err : Int)] rfl (heap_alloc_new w5 (.cells #[.slice none 0 0, .int .i64 0] 27)) (by kernel_rfl) (Nat.le_refl _) (by intro v hv; simp at hv; rcases hv with rfl | rfl <;> rfl) ?_
              intro wA hbA hsA
              have HBX := Lib.hid (show wA.heap[w5.heap.size]? = some (.cells #[.slice a5 s5.b.length c5, .int .i64 (s5.err : Int)] 27 (0, 0)) from hbA)
              have hlow := Lib.hid (show Stay (fun k => wr.heap.size ≤ k) w5 wA from ((Stay.alloc (X := fun _ => False) _ _).mono (fun _ y => y.elim)).trans (hsA.mono (fun k (y : k = _) => by have := HS5.out.size; omega)))
              have HSA := Lib.hid (show Stay (fun _ => False) wr wA from stay_seal (X := fun k => wr.heap.size ≤ k) ((HS5.out.mono (fun _ y => y.elim)).trans hlow.out) (fun _ hk => hk))
              have HSUB := Lib.hid (show Sub wA (.slice ax s.b.length cx) (.slice a5 s5.b.length c5) s5.b from ⟨slc_stayE HSU5.out.1 hlow.out (fun h0 k e hB => by have h1 := INV.out.xb (by have := HLE.out; omega) k (HSU5.out.2 k e); have h2 := INV.out.st.size; omega), HSU5.out.2⟩)
              have HGL := Lib.hid (show wr.heap.size ≤ w5.heap.size by have := HS5.out.size; omega)
              clear hbA hsA
              refine hK _ _ ?_ ?_
              · exact HSm.out _ HSA.out
              conv =>
                arg 8
                simp [Act.put]
              refine wpAnyH_takeL (i := 12) (v := .int .i64 n5) #[true, true, true, true, true, true, true, true, true, true, true, true, true] rfl (by kernel_rfl) (by kernel_rfl) (by kernel_rfl) (fun _ _ _ h => h) (by kernel_rfl) (HSm.out _ HSA.out) (Or.inl ⟨by rfl, fun W hW => ?_⟩) ?_
              · go_simp
              conv =>
                arg 8
                simp [Act.put]
              refine wpAnyH_done (by kernel_rfl) ?_ _
              clear HQ0 HQ1 HE0 HS HSm
              have HINA := Lib.hid (INV.out.stay0 HSA.out)
              have hgp : ¬ (w5.heap.size = p ∨ w5.heap.size = q) := by have h1 := RdAt.lt INV.out.r; have h2 := lt_of_block INV.out.b; have h3 := HGL.out; omega
              obtain ⟨S, hSd⟩ : ∃ S : World → Prop, S = Stay (fun k => k = p ∨ k = q) wA := ⟨_, rfl⟩
              have HS := Lib.hid (show ∀ W, S W → Stay (fun k => k = p ∨ k = q) wA W by intro W h; rw [hSd] at h; exact h)
              have HSm := Lib.hid (show ∀ W, Stay (fun k => k = p ∨ k = q) wA W → S W by intro W h; rw [hSd]; exact h)
              clear hSd
              have HG0 := Lib.hid (fun W (h : S W) => (two_cells (((HS.out W h).block _ (lt_of_block HBX.out) hgp).trans HBX.out)).1)
              have HG1 := Lib.hid (fun W (h : S W) => (two_cells (((HS.out W h).block _ (lt_of_block HBX.out) hgp).trans HBX.out)).2.1)
              have HE1 := Lib.hid (show ∀ W, S W → W.cell? ⟨lb, lo + i * 2 + 1, none⟩ = some (.int .i64 mo) from fun W h => (HS.out W h).cell (HINA.out.st.cell HC1.out (fun y => y)) (fun y => by have h1 := HINA.out.r.own.1; have h2 := HINA.out.qge; rcases y with y | y <;> (have y' : lb = _ := y; omega)))
              have HRA := Lib.hid (HINA.out.r.stay0 Stay.drew)
              clear hgp
              go_wp2
              refine wp_region_held (S := S) (by kernel_rfl) ?_
              change wpAnyH _ _ _ _ _ _ _ _ (World.drew _)
              refine wpAnyH_takeL (i := 0) (v := .agg #[.slice a5 s5.b.length c5, .int .i64 (s5.err : Int)]) #[true, false, false, false, false, false, false, false, false, false, false, false] rfl (by kernel_rfl) (by kernel_rfl) (by kernel_rfl) (fun _ _ _ h => h) (by kernel_rfl) (HSm.out _ Stay.drew) (Or.inl ⟨by rfl, fun W hW => ?_⟩) ?_
              · have k0 := HG0.out W hW
                have k1 := HG1.out W hW
                go_simp
              conv =>
                arg 8
                simp [Act.put]
              refine wpAnyH_takeL (i := 1) (v := .pointer (some ⟨p, 0, none⟩)) #[true, true, false, false, false, false, false, false, false, false, false, false] rfl (by kernel_rfl) (by kernel_rfl) (by kernel_rfl) (fun _ _ _ h => h) (by kernel_rfl) (HSm.out _ Stay.drew) (Or.inl ⟨by rfl, fun W hW => ?_⟩) ?_
              · go_simp
              conv =>
                arg 8
                simp [Act.put]
              refine wpAnyH_takeL (i := 2) (v := .slice (some ⟨lb, lo, none⟩) L.length c1) #[true, true, true, false, false, false, false, false, false, false, false, false] rfl (by kernel_rfl) (by kernel_rfl) (by kernel_rfl) (fun _ _ _ h => h) (by kernel_rfl) (HSm.out _ Stay.drew) (Or.inl ⟨by rfl, fun W hW => ?_⟩) ?_
              · go_simp
              conv =>
                arg 8
                simp [Act.put]
              refine wpAnyH_takeL (i := 3) (v := .int .i64 (i : Int)) #[true, true, true, true, false, false, false, false, false, false, false, false] rfl (by kernel_rfl) (by kernel_rfl) (by kernel_rfl) (fun _ _ _ h => h) (by kernel_rfl) (HSm.out _ Stay.drew) (Or.inl ⟨by rfl, fun W hW => ?_⟩) ?_
              · go_simp
              conv =>
                arg 8
                simp [Act.put]
              refine wpAnyH_takeL (i := 8) (v := .int .i64 n5) #[true, true, true, true, false, false, false, false, true, false, false, false] rfl (by kernel_rfl) (by kernel_rfl) (by kernel_rfl) (fun _ _ _ h => h) (by kernel_rfl) (HSm.out _ Stay.drew) (Or.inl ⟨by rfl, fun W hW => ?_⟩) ?_
              · go_simp
              conv =>
                arg 8
                simp [Act.put]
              refine wpAnyH_takeL (i := 4) (v := .pointer (some ⟨lb, lo + i * 2, none⟩)) #[true, true, true, true, true, false, false, false, true, false, false, false] rfl (by kernel_rfl) (by kernel_rfl) (by kernel_rfl) (fun _ _ _ h => h) (by kernel_rfl) (HSm.out _ Stay.drew) (Or.inl ⟨by rfl, fun W hW => ?_⟩) ?_
              · go_simp
              conv =>
                arg 8
                simp [Act.put]
              refine wpAnyH_takeL (i := 5) (v := .pointer (some ⟨lb, lo + i * 2 + 1, none⟩)) #[true, true, true, true, true, true, false, false, true, false, false, false] rfl (by kernel_rfl) (by kernel_rfl) (by kernel_rfl) (fun _ _ _ h => h) (by kernel_rfl) (HSm.out _ Stay.drew) (Or.inl ⟨by rfl, fun W hW => ?_⟩) ?_
              · go_simp
              conv =>
                arg 8
                simp [Act.put]
              refine wpAnyH_takeL (i := 6) (v := .int .i64 mo) #[true, true, true, true, true, true, true, false, true, false, false, false] rfl (by kernel_rfl) (by kernel_rfl) (by kernel_rfl) (fun _ _ _ h => h) (by kernel_rfl) (HSm.out _ Stay.drew) (Or.inl ⟨by rfl, fun W hW => ?_⟩) ?_
              · have k0 := HE1.out W hW
                go_simp
              conv =>
                arg 8
                simp [Act.put]
              refine wpAnyH_one #[true, true, true, true, true, true, true, true, true, false, false, false] (i := 7) rfl (by kernel_rfl) (by kernel_rfl) (fun K hK => ?_)
              go_simp
              go_wp2_with (
                go_at_call 12
                refine (rcount_any (fun k => w.heap.size ≤ k ∧ k ≠ q) _ p s mo HRA.out INV.out.len hmo2).mono ?_
                rintro e w6 ⟨rfl, hr6, hs6⟩
                rw [HT.out] at hr6
                skip
                skip
                have HR6 := Lib.hid hr6
                have HS6 := Lib.hid hs6
                have HS6' := Lib.hid (show Stay (fun k => k = p ∨ k = q) wA w6 from Stay.drew.trans (hs6.mono (fun k y => .inl y)))
                clear hr6 hs6)
              rw [HT.out]
              unfold i64V
              refine hK _ _ ?_ ?_
              · exact HSm.out _ HS6'.out
              conv =>
                arg 8
                simp [Act.put]
              refine wpAnyH_takeL (i := 9) (v := .bool true) #[true, true, true, true, true, true, true, true, true, true, false, false] rfl (by kernel_rfl) (by kernel_rfl) (by kernel_rfl) (fun _ _ _ h => h) (by kernel_rfl) (HSm.out _ HS6'.out) (Or.inl ⟨by rfl, fun W hW => ?_⟩) ?_
              · go_simp
              conv =>
                arg 8
                simp [Act.put]
              refine wpAnyH_one #[true, true, true, true, true, true, true, true, true, true, true, false] (i := 10) rfl (by kernel_rfl) (by kernel_rfl) (fun K hK => ?_)
              refine step_store_mid rfl 27 (.tmp 6) (.tmp 104) rfl (q) 0 rfl 27 _ [.slice a5 s5.b.length c5, .int .i64 (s5.err : Int)] rfl (show w6.heap[q]? = some (.cells [.slice ax s.b.length cx, .int .i64 (s.err : Int)].toArray _ (0, 0)) from (HS6.out.block _ (lt_of_block HINA.out.b) (fun (y : q = p) => HINA.out.r.own.2 y.symm)).trans HINA.out.b) (by kernel_rfl) (Nat.le_refl _) (by intro v hv; simp at hv; rcases hv with rfl | rfl <;> rfl) ?_
              intro w7 hb7 hs7
              have HB7 := Lib.hid hb7
              have HS7 := Lib.hid hs7
              have HS7' := Lib.hid (show Stay (fun k => k = p ∨ k = q) wA w7 from HS6'.out.trans (hs7.mono (fun k y => .inr y)))
              clear hb7 hs7
              refine hK _ _ ?_ ?_
              · exact HSm.out _ HS7'.out
              conv =>
                arg 8
                simp [Act.put]
              refine wpAnyH_takeL (i := 11) (v := .bool true) #[true, true, true, true, true, true, true, true, true, true, true, true] rfl (by kernel_rfl) (by kernel_rfl) (by kernel_rfl) (fun _ _ _ h => h) (by kernel_rfl) (HSm.out _ HS7'.out) (Or.inl ⟨by rfl, fun W hW => ?_⟩) ?_
              · go_simp
              conv =>
                arg 8
                simp [Act.put]
              refine wpAnyH_done (by kernel_rfl) ?_ _
              have INV7 := Lib.hid (AskInv.next INV.out (HSA.out.trans Stay.drew) (HSUB.out.stay0 Stay.drew) HLE.out HR6.out HS6.out HB7.out HS7.out)
              go_wp2
              obtain ⟨D, hDd⟩ : ∃ D : World → Prop, D = fun W => AskInv w W p q s5 (.slice a5 s5.b.length c5) := ⟨_, rfl⟩
              have HD := Lib.hid (show ∀ W, D W → AskInv w W p q s5 (.slice a5 s5.b.length c5) by intro W h; rw [hDd] at h; exact h)
              have HDm := Lib.hid (show ∀ W, AskInv w W p q s5 (.slice a5 s5.b.length c5) → D W by intro W h; rw [hDd]; exact h)
              clear hDd
              have HN := Lib.hid (HDm.out w7.drew (INV7.out.stay0 Stay.drew))
              have k1 := fun j : InC D => (two_cells (HD.out _ j.h).b).1
              have k2 := fun j : InC D => (two_cells (HD.out _ j.h).b).2.1
              have H1 := Lib.hid (show ∀ W, D W → Calls Tryd.prog 21 #[.pointer (some ⟨p, 0, none⟩)] W fun e w' => e = .returned (errV (doneB s5)) ∧ D w' from fun W h => (rdone_any _ _ p s5 (HD.out W h).r).mono fun e w' ⟨h1, h2⟩ => ⟨h1, h2 ▸ h⟩)
              have H2 := Lib.hid (show ∀ W, D W → Calls Tryd.prog 23 #[.pointer (some ⟨p, 0, none⟩)] W fun e w' => e = .returned (errV s5.err) ∧ D w' from fun W h => (err_any _ _ p s5 (HD.out W h).r).mono fun e w' ⟨h1, h2⟩ => ⟨h1, h2 ▸ h⟩)
              have H3 := Lib.hid (show ∀ c : Nat, ∀ W, D W → Calls Tryd.prog 20 #[errV c] W fun e w' => e = .returned (.int .i64 (c : Int)) ∧ D w' from fun c W h => (num_err c _ (ErrCell.stay0 HG.out (HD.out W h).st)).mono fun e w' ⟨h1, h2⟩ => ⟨h1, HDm.out _ ((HD.out W h).stay0 h2)⟩)
              have H4 := Lib.hid (show ∀ W, D W → Calls Tryd.prog 22 #[.agg #[.slice a5 s5.b.length c5, .int .i64 (s5.err : Int)]] W fun e w' => e = .returned (.int .i64 (doneB s5 : Nat)) ∧ D w' from fun W h => (rdone_agg s5 _ _ (HD.out W h).l).mono fun e w' ⟨h1, h2⟩ => ⟨h1, HDm.out _ ((HD.out W h).stay0 h2)⟩)
              have H5 := Lib.hid (show ∀ W, D W → Calls Tryd.prog 24 #[.pointer (some ⟨p, 0, none⟩)] W fun e w' => e = .returned (.int .i64 (s5.b.length : Int)) ∧ D w' from fun W h => (left_any _ _ p s5 (HD.out W h).r).mono fun e w' ⟨h1, h2⟩ => ⟨h1, h2 ▸ h⟩)
              haveI : Nonempty (InC D) := ⟨⟨_, HN.out⟩⟩
              refine wp_region_class D HN.out (by kernel_rfl) (by kernel_rfl) ?_
              repeat (go_big_quiet_step ((first
                | with_reducible exact calls_class H1.out
                | with_reducible exact calls_class H2.out
                | with_reducible exact calls_class (H3.out _)
                | with_reducible exact calls_class H4.out
                | with_reducible exact calls_class H5.out)))
              refine wpQuiet_nil ?_
              rintro W ⟨j, rfl⟩
              have hend := HD.out _ j.h
              clear k1 k2
              generalize j.w = w9 at *
              have HEND := Lib.hid hend
              clear hend
              go_wp2
              go_roundw
              case rel => exact ⟨i + 1, s5, _, by omega, by omega, by go_num, HEND.out⟩
              case measure => simp [intOf]; omega
          · as_aux_lemma =>
              go_simp
              refine hK _ _ ?_ ?_
              · exact HSm.out _ (Stay.drew.trans (Stay.alloc _ _))
              conv =>
                arg 8
                simp [Act.put]
              refine wpAnyH_one #[true, true, true, true, true, true, true, false, false, false, true, false, false] (i := 6) rfl (by kernel_rfl) (by kernel_rfl) (fun K hK => ?_)
              go_simp
              go_wp2_with (
                go_at_call 11
                refine (rrcount_any s.b s.err mo _ _ ((INV.out.l.stay0 Stay.drew).stay0 (Stay.alloc _ _)) hmo2).mono ?_
                rintro e w5 ⟨hret, hs5⟩
                rw [show (⟨s.b, s.err⟩ : RS) = s from rfl, HT.out] at hret
                obtain ⟨x5, rfl, hsub5⟩ := hret
                obtain ⟨a5, c5, rfl, _⟩ := id hsub5.1
                have HB5 := Lib.hid ((hs5.block _ (by simp) (fun y => y)).trans (heap_alloc_new wr.drew _))
                have HS5 := Lib.hid (show Stay (fun _ => False) wr w5 from (Stay.drew.trans (Stay.alloc _ _)).trans hs5)
                have HSU5 := Lib.hid hsub5
                clear hs5 hsub5)
              unfold rdV i64V
              refine hK _ _ ?_ ?_
              · exact HSm.out _ HS5.out
              conv =>
                arg 8
                simp [Act.put]
              refine wpAnyH_takeL (i := 7) (v := .tuple #[.agg #[.slice a5 s5.b.length c5, .int .i64 (s5.err : Int)], .int .i64 n5]) #[true, true, true, true, true, true, true, true, false, false, true, false, false] rfl (by kernel_rfl) (by kernel_rfl) (by kernel_rfl) (fun _ _ _ h => h) (by kernel_rfl) (HSm.out _ HS5.out) (Or.inl ⟨by rfl, fun W hW => ?_⟩) ?_
              · go_simp
              conv =>
                arg 8
                simp [Act.put]
              refine wpAnyH_takeL (i := 8) (v := .agg #[.slice a5 s5.b.length c5, .int .i64 (s5.err : Int)]) #[true, true, true, true, true, true, true, true, true, false, true, false, false] rfl (by kernel_rfl) (by kernel_rfl) (by kernel_rfl) (fun _ _ _ h => h) (by kernel_rfl) (HSm.out _ HS5.out) (Or.inl ⟨by rfl, fun W hW => ?_⟩) ?_
              · go_simp
              conv =>
                arg 8
                simp [Act.put]
              refine wpAnyH_takeL (i := 9) (v := .int .i64 n5) #[true, true, true, true, true, true, true, true, true, true, true, false, false] rfl (by kernel_rfl) (by kernel_rfl) (by kernel_rfl) (fun _ _ _ h => h) (by kernel_rfl) (HSm.out _ HS5.out) (Or.inl ⟨by rfl, fun W hW => ?_⟩) ?_
              · go_simp
              conv =>
                arg 8
                simp [Act.put]
              refine wpAnyH_one #[true, true, true, true, true, true, true, true, true, true, true, true, false] (i := 11) rfl (by kernel_rfl) (by kernel_rfl) (fun K hK => ?_)
              refine step_store_mid rfl 27 (.tmp 13) (.tmp 102) rfl (wr.heap.size) 0 rfl 27 _ [.slice a5 s5.b.length c5, .int .i64 (s5.err : Int)] rfl HB5.out (by kernel_rfl) (Nat.le_refl _) (by intro v hv; simp at hv; rcases hv with rfl | rfl <;> rfl) ?_
              intro wA hbA hsA
              have HBX := Lib.hid (show wA.heap[wr.heap.size]? = some (.cells #[.slice a5 s5.b.length c5, .int .i64 (s5.err : Int)] 27 (0, 0)) from hbA)
              have hlow := Lib.hid (show Stay (fun k => wr.heap.size ≤ k) w5 wA from hsA.mono (fun k (y : k = _) => by omega))
              have HSA := Lib.hid (show Stay (fun _ => False) wr wA from stay_seal (X := fun k => wr.heap.size ≤ k) ((HS5.out.mono (fun _ y => y.elim)).trans hlow.out) (fun _ hk => hk))
              have HSUB := Lib.hid (show Sub wA (.slice ax s.b.length cx) (.slice a5 s5.b.length c5) s5.b from ⟨slc_stayE HSU5.out.1 hlow.out (fun h0 k e hB => by have h1 := INV.out.xb (by have := HLE.out; omega) k (HSU5.out.2 k e); have h2 := INV.out.st.size; omega), HSU5.out.2⟩)
              have HGL := Lib.hid (show wr.heap.size ≤ wr.heap.size by have := HS5.out.size; omega)
              clear hbA hsA
              refine hK _ _ ?_ ?_
              · exact HSm.out _ HSA.out
              conv =>
                arg 8
                simp [Act.put]
              refine wpAnyH_takeL (i := 12) (v := .int .i64 n5) #[true, true, true, true, true, true, true, true, true, true, true, true, true] rfl (by kernel_rfl) (by kernel_rfl) (by kernel_rfl) (fun _ _ _ h => h) (by kernel_rfl) (HSm.out _ HSA.out) (Or.inl ⟨by rfl, fun W hW => ?_⟩) ?_
              · go_simp
              conv =>
                arg 8
                simp [Act.put]
              refine wpAnyH_done (by kernel_rfl) ?_ _
              clear HQ0 HQ1 HE0 HS HSm
              have HINA := Lib.hid (INV.out.stay0 HSA.out)
              have hgp : ¬ (wr.heap.size = p ∨ wr.heap.size = q) := by have h1 := RdAt.lt INV.out.r; have h2 := lt_of_block INV.out.b; have h3 := HGL.out; omega
              obtain ⟨S, hSd⟩ : ∃ S : World → Prop, S = Stay (fun k => k = p ∨ k = q) wA := ⟨_, rfl⟩
              have HS := Lib.hid (show ∀ W, S W → Stay (fun k => k = p ∨ k = q) wA W by intro W h; rw [hSd] at h; exact h)
              have HSm := Lib.hid (show ∀ W, Stay (fun k => k = p ∨ k = q) wA W → S W by intro W h; rw [hSd]; exact h)
              clear hSd
              have HG0 := Lib.hid (fun W (h : S W) => (two_cells (((HS.out W h).block _ (lt_of_block HBX.out) hgp).trans HBX.out)).1)
              have HG1 := Lib.hid (fun W (h : S W) => (two_cells (((HS.out W h).block _ (lt_of_block HBX.out) hgp).trans HBX.out)).2.1)
              have HE1 := Lib.hid (show ∀ W, S W → W.cell? ⟨lb, lo + i * 2 + 1, none⟩ = some (.int .i64 mo) from fun W h => (HS.out W h).cell (HINA.out.st.cell HC1.out (fun y => y)) (fun y => by have h1 := HINA.out.r.own.1; have h2 := HINA.out.qge; rcases y with y | y <;> (have y' : lb = _ := y; omega)))
              have HRA := Lib.hid (HINA.out.r.stay0 Stay.drew)
              clear hgp
              go_wp2
              refine wp_region_held (S := S) (by kernel_rfl) ?_
              change wpAnyH _ _ _ _ _ _ _ _ (World.drew _)
              refine wpAnyH_takeL (i := 0) (v := .agg #[.slice a5 s5.b.length c5, .int .i64 (s5.err : Int)]) #[true, false, false, false, false, false, false, false, false, false, false, false] rfl (by kernel_rfl) (by kernel_rfl) (by kernel_rfl) (fun _ _ _ h => h) (by kernel_rfl) (HSm.out _ Stay.drew) (Or.inl ⟨by rfl, fun W hW => ?_⟩) ?_
              · have k0 := HG0.out W hW
                have k1 := HG1.out W hW
                go_simp
              conv =>
                arg 8
                simp [Act.put]
              refine wpAnyH_takeL (i := 1) (v := .pointer (some ⟨p, 0, none⟩)) #[true, true, false, false, false, false, false, false, false, false, false, false] rfl (by kernel_rfl) (by kernel_rfl) (by kernel_rfl) (fun _ _ _ h => h) (by kernel_rfl) (HSm.out _ Stay.drew) (Or.inl ⟨by rfl, fun W hW => ?_⟩) ?_
              · go_simp
              conv =>
                arg 8
                simp [Act.put]
              refine wpAnyH_takeL (i := 2) (v := .slice (some ⟨lb, lo, none⟩) L.length c1) #[true, true, true, false, false, false, false, false, false, false, false, false] rfl (by kernel_rfl) (by kernel_rfl) (by kernel_rfl) (fun _ _ _ h => h) (by kernel_rfl) (HSm.out _ Stay.drew) (Or.inl ⟨by rfl, fun W hW => ?_⟩) ?_
              · go_simp
              conv =>
                arg 8
                simp [Act.put]
              refine wpAnyH_takeL (i := 3) (v := .int .i64 (i : Int)) #[true, true, true, true, false, false, false, false, false, false, false, false] rfl (by kernel_rfl) (by kernel_rfl) (by kernel_rfl) (fun _ _ _ h => h) (by kernel_rfl) (HSm.out _ Stay.drew) (Or.inl ⟨by rfl, fun W hW => ?_⟩) ?_
              · go_simp
              conv =>
                arg 8
                simp [Act.put]
              refine wpAnyH_takeL (i := 8) (v := .int .i64 n5) #[true, true, true, true, false, false, false, false, true, false, false, false] rfl (by kernel_rfl) (by kernel_rfl) (by kernel_rfl) (fun _ _ _ h => h) (by kernel_rfl) (HSm.out _ Stay.drew) (Or.inl ⟨by rfl, fun W hW => ?_⟩) ?_
              · go_simp
              conv =>
                arg 8
                simp [Act.put]
              refine wpAnyH_takeL (i := 4) (v := .pointer (some ⟨lb, lo + i * 2, none⟩)) #[true, true, true, true, true, false, false, false, true, false, false, false] rfl (by kernel_rfl) (by kernel_rfl) (by kernel_rfl) (fun _ _ _ h => h) (by kernel_rfl) (HSm.out _ Stay.drew) (Or.inl ⟨by rfl, fun W hW => ?_⟩) ?_
              · go_simp
              conv =>
                arg 8
                simp [Act.put]
              refine wpAnyH_takeL (i := 5) (v := .pointer (some ⟨lb, lo + i * 2 + 1, none⟩)) #[true, true, true, true, true, true, false, false, true, false, false, false] rfl (by kernel_rfl) (by kernel_rfl) (by kernel_rfl) (fun _ _ _ h => h) (by kernel_rfl) (HSm.out _ Stay.drew) (Or.inl ⟨by rfl, fun W hW => ?_⟩) ?_
              · go_simp
              conv =>
                arg 8
                simp [Act.put]
              refine wpAnyH_takeL (i := 6) (v := .int .i64 mo) #[true, true, true, true, true, true, true, false, true, false, false, false] rfl (by kernel_rfl) (by kernel_rfl) (by kernel_rfl) (fun _ _ _ h => h) (by kernel_rfl) (HSm.out _ Stay.drew) (Or.inl ⟨by rfl, fun W hW => ?_⟩) ?_
              · have k0 := HE1.out W hW
                go_simp
              conv =>
                arg 8
                simp [Act.put]
              refine wpAnyH_one #[true, true, true, true, true, true, true, true, true, false, false, false] (i := 7) rfl (by kernel_rfl) (by kernel_rfl) (fun K hK => ?_)
              go_simp
              go_wp2_with (
                go_at_call 12
                refine (rcount_any (fun k => w.heap.size ≤ k ∧ k ≠ q) _ p s mo HRA.out INV.out.len hmo2).mono ?_
                rintro e w6 ⟨rfl, hr6, hs6⟩
                rw [HT.out] at hr6
                skip
                skip
                have HR6 := Lib.hid hr6
                have HS6 := Lib.hid hs6
                have HS6' := Lib.hid (show Stay (fun k => k = p ∨ k = q) wA w6 from Stay.drew.trans (hs6.mono (fun k y => .inl y)))
                clear hr6 hs6)
              rw [HT.out]
              unfold i64V
              refine hK _ _ ?_ ?_
              · exact HSm.out _ HS6'.out
              conv =>
                arg 8
                simp [Act.put]
              refine wpAnyH_takeL (i := 9) (v := .bool true) #[true, true, true, true, true, true, true, true, true, true, false, false] rfl (by kernel_rfl) (by kernel_rfl) (by kernel_rfl) (fun _ _ _ h => h) (by kernel_rfl) (HSm.out _ HS6'.out) (Or.inl ⟨by rfl, fun W hW => ?_⟩) ?_
              · go_simp
              conv =>
                arg 8
                simp [Act.put]
              refine wpAnyH_one #[true, true, true, true, true, true, true, true, true, true, true, false] (i := 10) rfl (by kernel_rfl) (by kernel_rfl) (fun K hK => ?_)
              refine step_store_mid rfl 27 (.tmp 6) (.tmp 104) rfl (q) 0 rfl 27 _ [.slice a5 s5.b.length c5, .int .i64 (s5.err : Int)] rfl (show w6.heap[q]? = some (.cells [.slice ax s.b.length cx, .int .i64 (s.err : Int)].toArray _ (0, 0)) from (HS6.out.block _ (lt_of_block HINA.out.b) (fun (y : q = p) => HINA.out.r.own.2 y.symm)).trans HINA.out.b) (by kernel_rfl) (Nat.le_refl _) (by intro v hv; simp at hv; rcases hv with rfl | rfl <;> rfl) ?_
              intro w7 hb7 hs7
              have HB7 := Lib.hid hb7
              have HS7 := Lib.hid hs7
              have HS7' := Lib.hid (show Stay (fun k => k = p ∨ k = q) wA w7 from HS6'.out.trans (hs7.mono (fun k y => .inr y)))
              clear hb7 hs7
              refine hK _ _ ?_ ?_
              · exact HSm.out _ HS7'.out
              conv =>
                arg 8
                simp [Act.put]
              refine wpAnyH_takeL (i := 11) (v := .bool true) #[true, true, true, true, true, true, true, true, true, true, true, true] rfl (by kernel_rfl) (by kernel_rfl) (by kernel_rfl) (fun _ _ _ h => h) (by kernel_rfl) (HSm.out _ HS7'.out) (Or.inl ⟨by rfl, fun W hW => ?_⟩) ?_
              · go_simp
              conv =>
                arg 8
                simp [Act.put]
              refine wpAnyH_done (by kernel_rfl) ?_ _
              have INV7 := Lib.hid (AskInv.next INV.out (HSA.out.trans Stay.drew) (HSUB.out.stay0 Stay.drew) HLE.out HR6.out HS6.out HB7.out HS7.out)
              go_wp2
              obtain ⟨D, hDd⟩ : ∃ D : World → Prop, D = fun W => AskInv w W p q s5 (.slice a5 s5.b.length c5) := ⟨_, rfl⟩
              have HD := Lib.hid (show ∀ W, D W → AskInv w W p q s5 (.slice a5 s5.b.length c5) by intro W h; rw [hDd] at h; exact h)
              have HDm := Lib.hid (show ∀ W, AskInv w W p q s5 (.slice a5 s5.b.length c5) → D W by intro W h; rw [hDd]; exact h)
              clear hDd
              have HN := Lib.hid (HDm.out w7.drew (INV7.out.stay0 Stay.drew))
              have k1 := fun j : InC D => (two_cells (HD.out _ j.h).b).1
              have k2 := fun j : InC D => (two_cells (HD.out _ j.h).b).2.1
              have H1 := Lib.hid (show ∀ W, D W → Calls Tryd.prog 21 #[.pointer (some ⟨p, 0, none⟩)] W fun e w' => e = .returned (errV (doneB s5)) ∧ D w' from fun W h => (rdone_any _ _ p s5 (HD.out W h).r).mono fun e w' ⟨h1, h2⟩ => ⟨h1, h2 ▸ h⟩)
              have H2 := Lib.hid (show ∀ W, D W → Calls Tryd.prog 23 #[.pointer (some ⟨p, 0, none⟩)] W fun e w' => e = .returned (errV s5.err) ∧ D w' from fun W h => (err_any _ _ p s5 (HD.out W h).r).mono fun e w' ⟨h1, h2⟩ => ⟨h1, h2 ▸ h⟩)
              have H3 := Lib.hid (show ∀ c : Nat, ∀ W, D W → Calls Tryd.prog 20 #[errV c] W fun e w' => e = .returned (.int .i64 (c : Int)) ∧ D w' from fun c W h => (num_err c _ (ErrCell.stay0 HG.out (HD.out W h).st)).mono fun e w' ⟨h1, h2⟩ => ⟨h1, HDm.out _ ((HD.out W h).stay0 h2)⟩)
              have H4 := Lib.hid (show ∀ W, D W → Calls Tryd.prog 22 #[.agg #[.slice a5 s5.b.length c5, .int .i64 (s5.err : Int)]] W fun e w' => e = .returned (.int .i64 (doneB s5 : Nat)) ∧ D w' from fun W h => (rdone_agg s5 _ _ (HD.out W h).l).mono fun e w' ⟨h1, h2⟩ => ⟨h1, HDm.out _ ((HD.out W h).stay0 h2)⟩)
              have H5 := Lib.hid (show ∀ W, D W → Calls Tryd.prog 24 #[.pointer (some ⟨p, 0, none⟩)] W fun e w' => e = .returned (.int .i64 (s5.b.length : Int)) ∧ D w' from fun W h => (left_any _ _ p s5 (HD.out W h).r).mono fun e w' ⟨h1, h2⟩ => ⟨h1, h2 ▸ h⟩)
              haveI : Nonempty (InC D) := ⟨⟨_, HN.out⟩⟩
              refine wp_region_class D HN.out (by kernel_rfl) (by kernel_rfl) ?_
              repeat (go_big_quiet_step ((first
                | with_reducible exact calls_class H1.out
                | with_reducible exact calls_class H2.out
                | with_reducible exact calls_class (H3.out _)
                | with_reducible exact calls_class H4.out
                | with_reducible exact calls_class H5.out)))
              refine wpQuiet_nil ?_
              rintro W ⟨j, rfl⟩
              have hend := HD.out _ j.h
              clear k1 k2
              generalize j.w = w9 at *
              have HEND := Lib.hid hend
              clear hend
              go_wp2
              go_roundw
              case rel => exact ⟨i + 1, s5, _, by omega, by omega, by go_num, HEND.out⟩
              case measure => simp [intOf]; omega
      · as_aux_lemma =>
          obtain ⟨⟨n5, s5⟩, ht⟩ : ∃ t, takeB truB false s = t := ⟨_, rfl⟩
          have HT := Lib.hid ht
          have HLE := Lib.hid (show s5.b.length ≤ s.b.length by have := takeB_len (rule := truB) (zero := false) (s := s) (fun _ _ h => truB_len h); rw [ht] at this; exact this)
          clear ht
          go_wp2_with fail
          refine (rrbool_any s.b s.err _ _ INV.out.l).mono ?_
          rintro e w5 ⟨hret, hs5⟩
          rw [show (⟨s.b, s.err⟩ : RS) = s from rfl, HT.out] at hret
          obtain ⟨x5, rfl, hsub5⟩ := hret
          obtain ⟨a5, c5, rfl, _⟩ := id hsub5.1
          unfold rdV boolV
          have HSA := Lib.hid (show Stay (fun _ => False) wr (w5.alloc (.cells #[.slice a5 s5.b.length c5, .int .i64 (s5.err : Int)] 27)) from hs5.trans (Stay.alloc _ _))
          have HBX := Lib.hid (heap_alloc_new w5 (.cells #[.slice a5 s5.b.length c5, .int .i64 (s5.err : Int)] 27))
          have HSUB := Lib.hid (hsub5.stay0 (Stay.alloc w5 (.cells #[.slice a5 s5.b.length c5, .int .i64 (s5.err : Int)] 27)))
          have HGL := Lib.hid hs5.size
          clear hs5 hsub5
          go_wp2_with fail
          generalize w5.alloc (.cells #[.slice a5 s5.b.length c5, .int .i64 (s5.err : Int)] 27) = wA at HSA HBX HSUB ⊢
          have HINA := Lib.hid (INV.out.stay0 HSA.out)
          have hgp : ¬ (w5.heap.size = p ∨ w5.heap.size = q) := by have h1 := RdAt.lt INV.out.r; have h2 := lt_of_block INV.out.b; have h3 := HGL.out; omega
          obtain ⟨S, hSd⟩ : ∃ S : World → Prop, S = Stay (fun k => k = p ∨ k = q) wA := ⟨_, rfl⟩
          have HS := Lib.hid (show ∀ W, S W → Stay (fun k => k = p ∨ k = q) wA W by intro W h; rw [hSd] at h; exact h)
          have HSm := Lib.hid (show ∀ W, Stay (fun k => k = p ∨ k = q) wA W → S W by intro W h; rw [hSd]; exact h)
          clear hSd
          have HG0 := Lib.hid (fun W (h : S W) => (two_cells (((HS.out W h).block _ (lt_of_block HBX.out) hgp).trans HBX.out)).1)
          have HG1 := Lib.hid (fun W (h : S W) => (two_cells (((HS.out W h).block _ (lt_of_block HBX.out) hgp).trans HBX.out)).2.1)
          have HE1 := Lib.hid (show ∀ W, S W → W.cell? ⟨lb, lo + i * 2 + 1, none⟩ = some (.int .i64 mo) from fun W h => (HS.out W h).cell (HINA.out.st.cell HC1.out (fun y => y)) (fun y => by have h1 := HINA.out.r.own.1; have h2 := HINA.out.qge; rcases y with y | y <;> (have y' : lb = _ := y; omega)))
          have HRA := Lib.hid (HINA.out.r.stay0 Stay.drew)
          clear hgp
          go_wp2
          refine wp_region_held (S := S) (by kernel_rfl) ?_
          change wpAnyH _ _ _ _ _ _ _ _ (World.drew _)
          refine wpAnyH_takeL (i := 0) (v := .agg #[.slice a5 s5.b.length c5, .int .i64 (s5.err : Int)]) #[true, false, false, false, false, false, false] rfl (by kernel_rfl) (by kernel_rfl) (by kernel_rfl) (fun _ _ _ h => h) (by kernel_rfl) (HSm.out _ Stay.drew) (Or.inl ⟨by rfl, fun W hW => ?_⟩) ?_
          · have k0 := HG0.out W hW
            have k1 := HG1.out W hW
            go_simp
          conv =>
            arg 8
            simp [Act.put]
          refine wpAnyH_takeL (i := 1) (v := .pointer (some ⟨p, 0, none⟩)) #[true, true, false, false, false, false, false] rfl (by kernel_rfl) (by kernel_rfl) (by kernel_rfl) (fun _ _ _ h => h) (by kernel_rfl) (HSm.out _ Stay.drew) (Or.inl ⟨by rfl, fun W hW => ?_⟩) ?_
          · go_simp
          conv =>
            arg 8
            simp [Act.put]
          refine wpAnyH_takeL (i := 3) (v := .bool n5) #[true, true, false, true, false, false, false] rfl (by kernel_rfl) (by kernel_rfl) (by kernel_rfl) (fun _ _ _ h => h) (by kernel_rfl) (HSm.out _ Stay.drew) (Or.inl ⟨by rfl, fun W hW => ?_⟩) ?_
          · go_simp
          conv =>
            arg 8
            simp [Act.put]
          refine wpAnyH_one #[true, true, true, true, false, false, false] (i := 2) rfl (by kernel_rfl) (by kernel_rfl) (fun K hK => ?_)
          go_simp
          go_wp2_with (
            go_at_call 14
            refine (rbool_any (fun k => w.heap.size ≤ k ∧ k ≠ q) _ p s HRA.out).mono ?_
            rintro e w6 ⟨rfl, hr6, hs6⟩
            rw [HT.out] at hr6
            skip
            skip
            have HR6 := Lib.hid hr6
            have HS6 := Lib.hid hs6
            have HS6' := Lib.hid (show Stay (fun k => k = p ∨ k = q) wA w6 from Stay.drew.trans (hs6.mono (fun k y => .inl y)))
            clear hr6 hs6)
          rw [HT.out]
          unfold boolV
          refine hK _ _ ?_ ?_
          · exact HSm.out _ HS6'.out
          conv =>
            arg 8
            simp [Act.put]
          refine wpAnyH_takeL (i := 4) (v := .bool true) #[true, true, true, true, true, false, false] rfl (by kernel_rfl) (by kernel_rfl) (by kernel_rfl) (fun _ _ _ h => h) (by kernel_rfl) (HSm.out _ HS6'.out) (Or.inl ⟨by rfl, fun W hW => ?_⟩) ?_
          · go_simp
          conv =>
            arg 8
            simp [Act.put]
          refine wpAnyH_one #[true, true, true, true, true, true, false] (i := 5) rfl (by kernel_rfl) (by kernel_rfl) (fun K hK => ?_)
          refine step_store_mid rfl 27 (.tmp 6) (.tmp 121) rfl (q) 0 rfl 27 _ [.slice a5 s5.b.length c5, .int .i64 (s5.err : Int)] rfl (show w6.heap[q]? = some (.cells [.slice ax s.b.length cx, .int .i64 (s.err : Int)].toArray _ (0, 0)) from (HS6.out.block _ (lt_of_block HINA.out.b) (fun (y : q = p) => HINA.out.r.own.2 y.symm)).trans HINA.out.b) (by kernel_rfl) (Nat.le_refl _) (by intro v hv; simp at hv; rcases hv with rfl | rfl <;> rfl) ?_
          intro w7 hb7 hs7
          have HB7 := Lib.hid hb7
          have HS7 := Lib.hid hs7
          have HS7' := Lib.hid (show Stay (fun k => k = p ∨ k = q) wA w7 from HS6'.out.trans (hs7.mono (fun k y => .inr y)))
          clear hb7 hs7
          refine hK _ _ ?_ ?_
          · exact HSm.out _ HS7'.out
          conv =>
            arg 8
            simp [Act.put]
          refine wpAnyH_takeL (i := 6) (v := .bool true) #[true, true, true, true, true, true, true] rfl (by kernel_rfl) (by kernel_rfl) (by kernel_rfl) (fun _ _ _ h => h) (by kernel_rfl) (HSm.out _ HS7'.out) (Or.inl ⟨by rfl, fun W hW => ?_⟩) ?_
          · go_simp
          conv =>
            arg 8
            simp [Act.put]
          refine wpAnyH_done (by kernel_rfl) ?_ _
          have INV7 := Lib.hid (AskInv.next INV.out (HSA.out.trans Stay.drew) (HSUB.out.stay0 Stay.drew) HLE.out HR6.out HS6.out HB7.out HS7.out)
          go_wp2
          obtain ⟨D, hDd⟩ : ∃ D : World → Prop, D = fun W => AskInv w W p q s5 (.slice a5 s5.b.length c5) := ⟨_, rfl⟩
          have HD := Lib.hid (show ∀ W, D W → AskInv w W p q s5 (.slice a5 s5.b.length c5) by intro W h; rw [hDd] at h; exact h)
          have HDm := Lib.hid (show ∀ W, AskInv w W p q s5 (.slice a5 s5.b.length c5) → D W by intro W h; rw [hDd]; exact h)
          clear hDd
          have HN := Lib.hid (HDm.out w7.drew (INV7.out.stay0 Stay.drew))
          have k1 := fun j : InC D => (two_cells (HD.out _ j.h).b).1
          have k2 := fun j : InC D => (two_cells (HD.out _ j.h).b).2.1
          have H1 := Lib.hid (show ∀ W, D W → Calls Tryd.prog 21 #[.pointer (some ⟨p, 0, none⟩)] W fun e w' => e = .returned (errV (doneB s5)) ∧ D w' from fun W h => (rdone_any _ _ p s5 (HD.out W h).r).mono fun e w' ⟨h1, h2⟩ => ⟨h1, h2 ▸ h⟩)
          have H2 := Lib.hid (show ∀ W, D W → Calls Tryd.prog 23 #[.pointer (some ⟨p, 0, none⟩)] W fun e w' => e = .returned (errV s5.err) ∧ D w' from fun W h => (err_any _ _ p s5 (HD.out W h).r).mono fun e w' ⟨h1, h2⟩ => ⟨h1, h2 ▸ h⟩)
          have H3 := Lib.hid (show ∀ c : Nat, ∀ W, D W → Calls Tryd.prog 20 #[errV c] W fun e w' => e = .returned (.int .i64 (c : Int)) ∧ D w' from fun c W h => (num_err c _ (ErrCell.stay0 HG.out (HD.out W h).st)).mono fun e w' ⟨h1, h2⟩ => ⟨h1, HDm.out _ ((HD.out W h).stay0 h2)⟩)
          have H4 := Lib.hid (show ∀ W, D W → Calls Tryd.prog 22 #[.agg #[.slice a5 s5.b.length c5, .int .i64 (s5.err : Int)]] W fun e w' => e = .returned (.int .i64 (doneB s5 : Nat)) ∧ D w' from fun W h => (rdone_agg s5 _ _ (HD.out W h).l).mono fun e w' ⟨h1, h2⟩ => ⟨h1, HDm.out _ ((HD.out W h).stay0 h2)⟩)
          have H5 := Lib.hid (show ∀ W, D W → Calls Tryd.prog 24 #[.pointer (some ⟨p, 0, none⟩)] W fun e w' => e = .returned (.int .i64 (s5.b.length : Int)) ∧ D w' from fun W h => (left_any _ _ p s5 (HD.out W h).r).mono fun e w' ⟨h1, h2⟩ => ⟨h1, h2 ▸ h⟩)
          haveI : Nonempty (InC D) := ⟨⟨_, HN.out⟩⟩
          refine wp_region_class D HN.out (by kernel_rfl) (by kernel_rfl) ?_
          repeat (go_big_quiet_step ((first
            | with_reducible exact calls_class H1.out
            | with_reducible exact calls_class H2.out
            | with_reducible exact calls_class (H3.out _)
            | with_reducible exact calls_class H4.out
            | with_reducible exact calls_class H5.out)))
          refine wpQuiet_nil ?_
          rintro W ⟨j, rfl⟩
          have hend := HD.out _ j.h
          clear k1 k2
          generalize j.w = w9 at *
          have HEND := Lib.hid hend
          clear hend
          go_wp2
          go_roundw
          case rel => exact ⟨i + 1, s5, _, by omega, by omega, by go_num, HEND.out⟩
          case measure => simp [intOf]; omega
      · as_aux_lemma =>
          obtain ⟨⟨n5, s5⟩, ht⟩ : ∃ t, takeB (textB mo) [] s = t := ⟨_, rfl⟩
          have HT := Lib.hid ht
          have HLE := Lib.hid (show s5.b.length ≤ s.b.length by have := takeB_len (rule := (textB mo)) (zero := []) (s := s) (fun _ _ h => textB_len h); rw [ht] at this; exact this)
          have HNL := Lib.hid (show n5.length ≤ s.b.length by have := takeB_text_len mo s; rw [ht] at this; exact this)
          clear ht
          obtain ⟨S, hSd⟩ : ∃ S : World → Prop, S = Stay (fun k => False) wr := ⟨_, rfl⟩
          have HS := Lib.hid (show ∀ W, S W → Stay (fun k => False) wr W by intro W h; rw [hSd] at h; exact h)
          have HSm := Lib.hid (show ∀ W, Stay (fun k => False) wr W → S W by intro W h; rw [hSd]; exact h)
          clear hSd
          have HQ0 := Lib.hid (fun W (h : S W) => (two_cells (((HS.out W h).block _ (lt_of_block INV.out.b) (fun y => y)).trans INV.out.b)).1)
          have HQ1 := Lib.hid (fun W (h : S W) => (two_cells (((HS.out W h).block _ (lt_of_block INV.out.b) (fun y => y)).trans INV.out.b)).2.1)
          have HE0 := Lib.hid (show ∀ W, S W → W.cell? ⟨lb, lo + i * 2 + 1, none⟩ = some (.int .i64 mo) from fun W h => (HS.out W h).cell (INV.out.st.cell HC1.out (fun y => y)) (fun y => y))
          go_wp2
          refine wp_region_held (S := S) (by kernel_rfl) ?_
          change wpAnyH _ _ _ _ _ _ _ _ (World.drew _)
          refine wpAnyH_takeL (i := 0) (v := .agg #[.slice ax s.b.length cx, .int .i64 (s.err : Int)]) #[true, false, false, false, false, false, false, false, false, false, false, false, false] rfl (by kernel_rfl) (by kernel_rfl) (by kernel_rfl) (fun _ _ _ h => h) (by kernel_rfl) (HSm.out _ Stay.drew) (Or.inl ⟨by rfl, fun W hW => ?_⟩) ?_
          · have k0 := HQ0.out W hW
            have k1 := HQ1.out W hW
            go_simp
          conv =>
            arg 8
            simp [Act.put]
          refine wpAnyH_takeL (i := 1) (v := .slice (some ⟨lb, lo, none⟩) L.length c1) #[true, true, false, false, false, false, false, false, false, false, false, false, false] rfl (by kernel_rfl) (by kernel_rfl) (by kernel_rfl) (fun _ _ _ h => h) (by kernel_rfl) (HSm.out _ Stay.drew) (Or.inl ⟨by rfl, fun W hW => ?_⟩) ?_
          · go_simp
          conv =>
            arg 8
            simp [Act.put]
          refine wpAnyH_takeL (i := 2) (v := .int .i64 (i : Int)) #[true, true, true, false, false, false, false, false, false, false, false, false, false] rfl (by kernel_rfl) (by kernel_rfl) (by kernel_rfl) (fun _ _ _ h => h) (by kernel_rfl) (HSm.out _ Stay.drew) (Or.inl ⟨by rfl, fun W hW => ?_⟩) ?_
          · go_simp
          conv =>
            arg 8
            simp [Act.put]
          refine wpAnyH_takeL (i := 3) (v := .pointer (some ⟨lb, lo + i * 2, none⟩)) #[true, true, true, true, false, false, false, false, false, false, false, false, false] rfl (by kernel_rfl) (by kernel_rfl) (by kernel_rfl) (fun _ _ _ h => h) (by kernel_rfl) (HSm.out _ Stay.drew) (Or.inl ⟨by rfl, fun W hW => ?_⟩) ?_
          · go_simp
          conv =>
            arg 8
            simp [Act.put]
          refine wpAnyH_takeL (i := 4) (v := .pointer (some ⟨lb, lo + i * 2 + 1, none⟩)) #[true, true, true, true, true, false, false, false, false, false, false, false, false] rfl (by kernel_rfl) (by kernel_rfl) (by kernel_rfl) (fun _ _ _ h => h) (by kernel_rfl) (HSm.out _ Stay.drew) (Or.inl ⟨by rfl, fun W hW => ?_⟩) ?_
          · go_simp
          conv =>
            arg 8
            simp [Act.put]
          refine wpAnyH_takeL (i := 5) (v := .int .i64 mo) #[true, true, true, true, true, true, false, false, false, false, false, false, false] rfl (by kernel_rfl) (by kernel_rfl) (by kernel_rfl) (fun _ _ _ h => h) (by kernel_rfl) (HSm.out _ Stay.drew) (Or.inl ⟨by rfl, fun W hW => ?_⟩) ?_
          · have k0 := HE0.out W hW
            go_simp
          conv =>
            arg 8
            simp [Act.put]
          refine wpAnyH_two (i := 6) (j := 10) #[true, true, true, true, true, true, true, false, false, false, false, false, false] #[true, true, true, true, true, true, false, false, false, false, true, false, false] rfl rfl (by kernel_rfl) (by kernel_rfl) (by kernel_rfl) (fun K hK => ?_) (fun K hK => ?_)
          · as_aux_lemma =>
              go_simp
              go_wp2_with (
                go_at_call 15
                refine (rrbytes_any s.b s.err mo _ _ (INV.out.l.stay0 Stay.drew) hmo2).mono ?_
                rintro e w5 ⟨hret, hs5⟩
                rw [show (⟨s.b, s.err⟩ : RS) = s from rfl, HT.out] at hret
                obtain ⟨x5, v5, rfl, hsub5, hvb5⟩ := hret
                obtain ⟨a5, c5, rfl, _⟩ := id hsub5.1
                obtain ⟨av, cv, rfl, _⟩ := id hvb5.1
                have HV5 := Lib.hid hvb5
  
                have HS5 := Lib.hid (show Stay (fun _ => False) wr w5 from Stay.drew.trans hs5)
                have HSU5 := Lib.hid hsub5
                clear hs5 hsub5)
              unfold rdV 
              refine hK _ _ ?_ ?_
              · exact HSm.out _ HS5.out
              conv =>
                arg 8
                simp [Act.put]
              refine wpAnyH_takeL (i := 7) (v := .tuple #[.agg #[.slice a5 s5.b.length c5, .int .i64 (s5.err : Int)], .slice av n5.length cv]) #[true, true, true, true, true, true, true, true, false, false, false, false, false] rfl (by kernel_rfl) (by kernel_rfl) (by kernel_rfl) (fun _ _ _ h => h) (by kernel_rfl) (HSm.out _ HS5.out) (Or.inl ⟨by rfl, fun W hW => ?_⟩) ?_
              · go_simp
              conv =>
                arg 8
                simp [Act.put]
              refine wpAnyH_takeL (i := 8) (v := .agg #[.slice a5 s5.b.length c5, .int .i64 (s5.err : Int)]) #[true, true, true, true, true, true, true, true, true, false, false, false, false] rfl (by kernel_rfl) (by kernel_rfl) (by kernel_rfl) (fun _ _ _ h => h) (by kernel_rfl) (HSm.out _ HS5.out) (Or.inl ⟨by rfl, fun W hW => ?_⟩) ?_
              · go_simp
              conv =>
                arg 8
                simp [Act.put]
              refine wpAnyH_takeL (i := 9) (v := .slice av n5.length cv) #[true, true, true, true, true, true, true, true, true, true, false, false, false] rfl (by kernel_rfl) (by kernel_rfl) (by kernel_rfl) (fun _ _ _ h => h) (by kernel_rfl) (HSm.out _ HS5.out) (Or.inl ⟨by rfl, fun W hW => ?_⟩) ?_
              · go_simp
              conv =>
                arg 8
                simp [Act.put]
              refine wpAnyH_one #[true, true, true, true, true, true, true, true, true, true, true, false, false] (i := 10) rfl (by kernel_rfl) (by kernel_rfl) (fun K hK => ?_)
              go_simp
              refine hK _ _ ?_ ?_
              · exact HSm.out _ (HS5.out.trans (Stay.alloc _ _))
              conv =>
                arg 8
                simp [Act.put]
              refine wpAnyH_one #[true, true, true, true, true, true, true, true, true, true, true, true, false] (i := 11) rfl (by kernel_rfl) (by kernel_rfl) (fun K hK => ?_)
              refine step_store_mid rfl 27 (.tmp 17) (.tmp 136) rfl (w5.heap.size) 0 rfl 27 _ [.slice a5 s5.b.length c5, .int .i64 (s5.err : Int)] rfl (heap_alloc_new w5 (.cells #[.slice none 0 0, .int .i64 0] 27)) (by kernel_rfl) (Nat.le_refl _) (by intro v hv; simp at hv; rcases hv with rfl | rfl <;> rfl) ?_
              intro wA hbA hsA
              have HBX := Lib.hid (show wA.heap[w5.heap.size]? = some (.cells #[.slice a5 s5.b.length c5, .int .i64 (s5.err : Int)] 27 (0, 0)) from hbA)
              have hlow := Lib.hid (show Stay (fun k => wr.heap.size ≤ k) w5 wA from ((Stay.alloc (X := fun _ => False) _ _).mono (fun _ y => y.elim)).trans (hsA.mono (fun k (y : k = _) => by have := HS5.out.size; omega)))
              have HSA := Lib.hid (show Stay (fun _ => False) wr wA from stay_seal (X := fun k => wr.heap.size ≤ k) ((HS5.out.mono (fun _ y => y.elim)).trans hlow.out) (fun _ hk => hk))
              have HSUB := Lib.hid (show Sub wA (.slice ax s.b.length cx) (.slice a5 s5.b.length c5) s5.b from ⟨slc_stayE HSU5.out.1 hlow.out (fun h0 k e hB => by have h1 := INV.out.xb (by have := HLE.out; omega) k (HSU5.out.2 k e); have h2 := INV.out.st.size; omega), HSU5.out.2⟩)
              have HGL := Lib.hid (show wr.heap.size ≤ w5.heap.size by have := HS5.out.size; omega)
              have HVA := Lib.hid (slc_stayE HV5.out.1 hlow.out (fun h0 k e hB => by have h1 := INV.out.xb (by have := HNL.out; omega) k (HV5.out.2 k e); have h2 := INV.out.st.size; omega))
              clear hbA hsA
              refine hK _ _ ?_ ?_
              · exact HSm.out _ HSA.out
              conv =>
                arg 8
                simp [Act.put]
              refine wpAnyH_takeL (i := 12) (v := .slice av n5.length cv) #[true, true, true, true, true, true, true, true, true, true, true, true, true] rfl (by kernel_rfl) (by kernel_rfl) (by kernel_rfl) (fun _ _ _ h => h) (by kernel_rfl) (HSm.out _ HSA.out) (Or.inl ⟨by rfl, fun W hW => ?_⟩) ?_
              · go_simp
              conv =>
                arg 8
                simp [Act.put]
              refine wpAnyH_done (by kernel_rfl) ?_ _
              clear HQ0 HQ1 HE0 HS HSm
              have HINA := Lib.hid (INV.out.stay0 HSA.out)
              have hgp : ¬ (w5.heap.size = p ∨ w5.heap.size = q) := by have h1 := RdAt.lt INV.out.r; have h2 := lt_of_block INV.out.b; have h3 := HGL.out; omega
              obtain ⟨S, hSd⟩ : ∃ S : World → Prop, S = Stay (fun k => k = p ∨ k = q) wA := ⟨_, rfl⟩
              have HS := Lib.hid (show ∀ W, S W → Stay (fun k => k = p ∨ k = q) wA W by intro W h; rw [hSd] at h; exact h)
              have HSm := Lib.hid (show ∀ W, Stay (fun k => k = p ∨ k = q) wA W → S W by intro W h; rw [hSd]; exact h)
              clear hSd
              have HG0 := Lib.hid (fun W (h : S W) => (two_cells (((HS.out W h).block _ (lt_of_block HBX.out) hgp).trans HBX.out)).1)
              have HG1 := Lib.hid (fun W (h : S W) => (two_cells (((HS.out W h).block _ (lt_of_block HBX.out) hgp).trans HBX.out)).2.1)
              have HE1 := Lib.hid (show ∀ W, S W → W.cell? ⟨lb, lo + i * 2 + 1, none⟩ = some (.int .i64 mo) from fun W h => (HS.out W h).cell (HINA.out.st.cell HC1.out (fun y => y)) (fun y => by have h1 := HINA.out.r.own.1; have h2 := HINA.out.qge; rcases y with y | y <;> (have y' : lb = _ := y; omega)))
              have HRA := Lib.hid (HINA.out.r.stay0 Stay.drew)
              have HVW := Lib.hid (fun W (h : S W) => slc_stayE HVA.out (HS.out W h) (fun h0 k e (y : k = p ∨ k = q) => by have h1 := HINA.out.r.own.1; have h2 := HINA.out.qge; have h3 := INV.out.xb (by have := HNL.out; omega) k (HV5.out.2 k e); rcases y with y | y <;> omega))
              clear hgp
              go_wp2
              refine wp_region_held (S := S) (by kernel_rfl) ?_
              change wpAnyH _ _ _ _ _ _ _ _ (World.drew _)
              refine wpAnyH_takeL (i := 0) (v := .agg #[.slice a5 s5.b.length c5, .int .i64 (s5.err : Int)]) #[true, false, false, false, false, false, false, false, false, false, false, false, false] rfl (by kernel_rfl) (by kernel_rfl) (by kernel_rfl) (fun _ _ _ h => h) (by kernel_rfl) (HSm.out _ Stay.drew) (Or.inl ⟨by rfl, fun W hW => ?_⟩) ?_
              · have k0 := HG0.out W hW
                have k1 := HG1.out W hW
                go_simp
              conv =>
                arg 8
                simp [Act.put]
              refine wpAnyH_takeL (i := 1) (v := .pointer (some ⟨p, 0, none⟩)) #[true, true, false, false, false, false, false, false, false, false, false, false, false] rfl (by kernel_rfl) (by kernel_rfl) (by kernel_rfl) (fun _ _ _ h => h) (by kernel_rfl) (HSm.out _ Stay.drew) (Or.inl ⟨by rfl, fun W hW => ?_⟩) ?_
              · go_simp
              conv =>
                arg 8
                simp [Act.put]
              refine wpAnyH_takeL (i := 2) (v := .slice (some ⟨lb, lo, none⟩) L.length c1) #[true, true, true, false, false, false, false, false, false, false, false, false, false] rfl (by kernel_rfl) (by kernel_rfl) (by kernel_rfl) (fun _ _ _ h => h) (by kernel_rfl) (HSm.out _ Stay.drew) (Or.inl ⟨by rfl, fun W hW => ?_⟩) ?_
              · go_simp
              conv =>
                arg 8
                simp [Act.put]
              refine wpAnyH_takeL (i := 3) (v := .int .i64 (i : Int)) #[true, true, true, true, false, false, false, false, false, false, false, false, false] rfl (by kernel_rfl) (by kernel_rfl) (by kernel_rfl) (fun _ _ _ h => h) (by kernel_rfl) (HSm.out _ Stay.drew) (Or.inl ⟨by rfl, fun W hW => ?_⟩) ?_
              · go_simp
              conv =>
                arg 8
                simp [Act.put]
              refine wpAnyH_takeL (i := 8) (v := .slice av n5.length cv) #[true, true, true, true, false, false, false, false, true, false, false, false, false] rfl (by kernel_rfl) (by kernel_rfl) (by kernel_rfl) (fun _ _ _ h => h) (by kernel_rfl) (HSm.out _ Stay.drew) (Or.inl ⟨by rfl, fun W hW => ?_⟩) ?_
              · go_simp
              conv =>
                arg 8
                simp [Act.put]
              refine wpAnyH_takeL (i := 9) (v := .string ⟨n5.toArray⟩) #[true, true, true, true, false, false, false, false, true, true, false, false, false] rfl (by kernel_rfl) (by kernel_rfl) (by kernel_rfl) (fun _ _ _ h => h) (by kernel_rfl) (HSm.out _ Stay.drew) (Or.inl ⟨by rfl, fun W hW => ?_⟩) ?_
              · have kc := conv_slc (HVW.out W hW)
                unfold strV at kc
                go_simp
              conv =>
                arg 8
                simp [Act.put]
              refine wpAnyH_takeL (i := 4) (v := .pointer (some ⟨lb, lo + i * 2, none⟩)) #[true, true, true, true, true, false, false, false, true, true, false, false, false] rfl (by kernel_rfl) (by kernel_rfl) (by kernel_rfl) (fun _ _ _ h => h) (by kernel_rfl) (HSm.out _ Stay.drew) (Or.inl ⟨by rfl, fun W hW => ?_⟩) ?_
              · go_simp
              conv =>
                arg 8
                simp [Act.put]
              refine wpAnyH_takeL (i := 5) (v := .pointer (some ⟨lb, lo + i * 2 + 1, none⟩)) #[true, true, true, true, true, true, false, false, true, true, false, false, false] rfl (by kernel_rfl) (by kernel_rfl) (by kernel_rfl) (fun _ _ _ h => h) (by kernel_rfl) (HSm.out _ Stay.drew) (Or.inl ⟨by rfl, fun W hW => ?_⟩) ?_
              · go_simp
              conv =>
                arg 8
                simp [Act.put]
              refine wpAnyH_takeL (i := 6) (v := .int .i64 mo) #[true, true, true, true, true, true, true, false, true, true, false, false, false] rfl (by kernel_rfl) (by kernel_rfl) (by kernel_rfl) (fun _ _ _ h => h) (by kernel_rfl) (HSm.out _ Stay.drew) (Or.inl ⟨by rfl, fun W hW => ?_⟩) ?_
              · have k0 := HE1.out W hW
                go_simp
              conv =>
                arg 8
                simp [Act.put]
              refine wpAnyH_one #[true, true, true, true, true, true, true, true, true, true, false, false, false] (i := 7) rfl (by kernel_rfl) (by kernel_rfl) (fun K hK => ?_)
              go_simp
              go_wp2_with (
                go_at_call 16
                refine (rtext_any (fun k => w.heap.size ≤ k ∧ k ≠ q) _ p s mo HRA.out INV.out.len hmo2).mono ?_
                rintro e w6 ⟨rfl, hr6, hs6⟩
                rw [HT.out] at hr6
                skip
                skip
                have HR6 := Lib.hid hr6
                have HS6 := Lib.hid hs6
                have HS6' := Lib.hid (show Stay (fun k => k = p ∨ k = q) wA w6 from Stay.drew.trans (hs6.mono (fun k y => .inl y)))
                clear hr6 hs6)
              rw [HT.out]
              unfold strV
              refine hK _ _ ?_ ?_
              · exact HSm.out _ HS6'.out
              conv =>
                arg 8
                simp [Act.put]
              refine wpAnyH_takeL (i := 10) (v := .bool true) #[true, true, true, true, true, true, true, true, true, true, true, false, false] rfl (by kernel_rfl) (by kernel_rfl) (by kernel_rfl) (fun _ _ _ h => h) (by kernel_rfl) (HSm.out _ HS6'.out) (Or.inl ⟨by rfl, fun W hW => ?_⟩) ?_
              · go_simp
              conv =>
                arg 8
                simp [Act.put]
              refine wpAnyH_one #[true, true, true, true, true, true, true, true, true, true, true, true, false] (i := 11) rfl (by kernel_rfl) (by kernel_rfl) (fun K hK => ?_)
              refine step_store_mid rfl 27 (.tmp 6) (.tmp 138) rfl (q) 0 rfl 27 _ [.slice a5 s5.b.length c5, .int .i64 (s5.err : Int)] rfl (show w6.heap[q]? = some (.cells [.slice ax s.b.length cx, .int .i64 (s.err : Int)].toArray _ (0, 0)) from (HS6.out.block _ (lt_of_block HINA.out.b) (fun (y : q = p) => HINA.out.r.own.2 y.symm)).trans HINA.out.b) (by kernel_rfl) (Nat.le_refl _) (by intro v hv; simp at hv; rcases hv with rfl | rfl <;> rfl) ?_
              intro w7 hb7 hs7
              have HB7 := Lib.hid hb7
              have HS7 := Lib.hid hs7
              have HS7' := Lib.hid (show Stay (fun k => k = p ∨ k = q) wA w7 from HS6'.out.trans (hs7.mono (fun k y => .inr y)))
              clear hb7 hs7
              refine hK _ _ ?_ ?_
              · exact HSm.out _ HS7'.out
              conv =>
                arg 8
                simp [Act.put]
              refine wpAnyH_takeL (i := 12) (v := .bool true) #[true, true, true, true, true, true, true, true, true, true, true, true, true] rfl (by kernel_rfl) (by kernel_rfl) (by kernel_rfl) (fun _ _ _ h => h) (by kernel_rfl) (HSm.out _ HS7'.out) (Or.inl ⟨by rfl, fun W hW => ?_⟩) ?_
              · go_simp
              conv =>
                arg 8
                simp [Act.put]
              refine wpAnyH_done (by kernel_rfl) ?_ _
              have INV7 := Lib.hid (AskInv.next INV.out (HSA.out.trans Stay.drew) (HSUB.out.stay0 Stay.drew) HLE.out HR6.out HS6.out HB7.out HS7.out)
              go_wp2
              obtain ⟨D, hDd⟩ : ∃ D : World → Prop, D = fun W => AskInv w W p q s5 (.slice a5 s5.b.length c5) := ⟨_, rfl⟩
              have HD := Lib.hid (show ∀ W, D W → AskInv w W p q s5 (.slice a5 s5.b.length c5) by intro W h; rw [hDd] at h; exact h)
              have HDm := Lib.hid (show ∀ W, AskInv w W p q s5 (.slice a5 s5.b.length c5) → D W by intro W h; rw [hDd]; exact h)
              clear hDd
              have HN := Lib.hid (HDm.out w7.drew (INV7.out.stay0 Stay.drew))
              have k1 := fun j : InC D => (two_cells (HD.out _ j.h).b).1
              have k2 := fun j : InC D => (two_cells (HD.out _ j.h).b).2.1
              have H1 := Lib.hid (show ∀ W, D W → Calls Tryd.prog 21 #[.pointer (some ⟨p, 0, none⟩)] W fun e w' => e = .returned (errV (doneB s5)) ∧ D w' from fun W h => (rdone_any _ _ p s5 (HD.out W h).r).mono fun e w' ⟨h1, h2⟩ => ⟨h1, h2 ▸ h⟩)
              have H2 := Lib.hid (show ∀ W, D W → Calls Tryd.prog 23 #[.pointer (some ⟨p, 0, none⟩)] W fun e w' => e = .returned (errV s5.err) ∧ D w' from fun W h => (err_any _ _ p s5 (HD.out W h).r).mono fun e w' ⟨h1, h2⟩ => ⟨h1, h2 ▸ h⟩)
              have H3 := Lib.hid (show ∀ c : Nat, ∀ W, D W → Calls Tryd.prog 20 #[errV c] W fun e w' => e = .returned (.int .i64 (c : Int)) ∧ D w' from fun c W h => (num_err c _ (ErrCell.stay0 HG.out (HD.out W h).st)).mono fun e w' ⟨h1, h2⟩ => ⟨h1, HDm.out _ ((HD.out W h).stay0 h2)⟩)
              have H4 := Lib.hid (show ∀ W, D W → Calls Tryd.prog 22 #[.agg #[.slice a5 s5.b.length c5, .int .i64 (s5.err : Int)]] W fun e w' => e = .returned (.int .i64 (doneB s5 : Nat)) ∧ D w' from fun W h => (rdone_agg s5 _ _ (HD.out W h).l).mono fun e w' ⟨h1, h2⟩ => ⟨h1, HDm.out _ ((HD.out W h).stay0 h2)⟩)
              have H5 := Lib.hid (show ∀ W, D W → Calls Tryd.prog 24 #[.pointer (some ⟨p, 0, none⟩)] W fun e w' => e = .returned (.int .i64 (s5.b.length : Int)) ∧ D w' from fun W h => (left_any _ _ p s5 (HD.out W h).r).mono fun e w' ⟨h1, h2⟩ => ⟨h1, h2 ▸ h⟩)
              haveI : Nonempty (InC D) := ⟨⟨_, HN.out⟩⟩
              refine wp_region_class D HN.out (by kernel_rfl) (by kernel_rfl) ?_
              repeat (go_big_quiet_step ((first
                | with_reducible exact calls_class H1.out
                | with_reducible exact calls_class H2.out
                | with_reducible exact calls_class (H3.out _)
                | with_reducible exact calls_class H4.out
                | with_reducible exact calls_class H5.out)))
              refine wpQuiet_nil ?_
              rintro W ⟨j, rfl⟩
              have hend := HD.out _ j.h
              clear k1 k2
              generalize j.w = w9 at *
              have HEND := Lib.hid hend
              clear hend
              go_wp2
              go_roundw
              case rel => exact ⟨i + 1, s5, _, by omega, by omega, by go_num, HEND.out⟩
              case measure => simp [intOf]; omega
          · as_aux_lemma =>
              go_simp
              refine hK _ _ ?_ ?_
              · exact HSm.out _ (Stay.drew.trans (Stay.alloc _ _))
              conv =>
                arg 8
                simp [Act.put]
              refine wpAnyH_one #[true, true, true, true, true, true, true, false, false, false, true, false, false] (i := 6) rfl (by kernel_rfl) (by kernel_rfl) (fun K hK => ?_)
              go_simp
              go_wp2_with (
                go_at_call 15
                refine (rrbytes_any s.b s.err mo _ _ ((INV.out.l.stay0 Stay.drew).stay0 (Stay.alloc _ _)) hmo2).mono ?_
                rintro e w5 ⟨hret, hs5⟩
                rw [show (⟨s.b, s.err⟩ : RS) = s from rfl, HT.out] at hret
                obtain ⟨x5, v5, rfl, hsub5, hvb5⟩ := hret
                obtain ⟨a5, c5, rfl, _⟩ := id hsub5.1
                obtain ⟨av, cv, rfl, _⟩ := id hvb5.1
                have HV5 := Lib.hid hvb5
                have HB5 := Lib.hid ((hs5.block _ (by simp) (fun y => y)).trans (heap_alloc_new wr.drew _))
                have HS5 := Lib.hid (show Stay (fun _ => False) wr w5 from (Stay.drew.trans (Stay.alloc _ _)).trans hs5)
                have HSU5 := Lib.hid hsub5
                clear hs5 hsub5)
              unfold rdV 
              refine hK _ _ ?_ ?_
              · exact HSm.out _ HS5.out
              conv =>
                arg 8
                simp [Act.put]
              refine wpAnyH_takeL (i := 7) (v := .tuple #[.agg #[.slice a5 s5.b.length c5, .int .i64 (s5.err : Int)], .slice av n5.length cv]) #[true, true, true, true, true, true, true, true, false, false, true, false, false] rfl (by kernel_rfl) (by kernel_rfl) (by kernel_rfl) (fun _ _ _ h => h) (by kernel_rfl) (HSm.out _ HS5.out) (Or.inl ⟨by rfl, fun W hW => ?_⟩) ?_
              · go_simp
              conv =>
                arg 8
                simp [Act.put]
              refine wpAnyH_takeL (i := 8) (v := .agg #[.slice a5 s5.b.length c5, .int .i64 (s5.err : Int)]) #[true, true, true, true, true, true, true, true, true, false, true, false, false] rfl (by kernel_rfl) (by kernel_rfl) (by kernel_rfl) (fun _ _ _ h => h) (by kernel_rfl) (HSm.out _ HS5.out) (Or.inl ⟨by rfl, fun W hW => ?_⟩) ?_
              · go_simp
              conv =>
                arg 8
                simp [Act.put]
              refine wpAnyH_takeL (i := 9) (v := .slice av n5.length cv) #[true, true, true, true, true, true, true, true, true, true, true, false, false] rfl (by kernel_rfl) (by kernel_rfl) (by kernel_rfl) (fun _ _ _ h => h) (by kernel_rfl) (HSm.out _ HS5.out) (Or.inl ⟨by rfl, fun W hW => ?_⟩) ?_
              · go_simp
              conv =>
                arg 8
                simp [Act.put]
              refine wpAnyH_one #[true, true, true, true, true, true, true, true, true, true, true, true, false] (i := 11) rfl (by kernel_rfl) (by kernel_rfl) (fun K hK => ?_)
              refine step_store_mid rfl 27 (.tmp 17) (.tmp 136) rfl (wr.heap.size) 0 rfl 27 _ [.slice a5 s5.b.length c5, .int .i64 (s5.err : Int)] rfl HB5.out (by kernel_rfl) (Nat.le_refl _) (by intro v hv; simp at hv; rcases hv with rfl | rfl <;> rfl) ?_
              intro wA hbA hsA
              have HBX := Lib.hid (show wA.heap[wr.heap.size]? = some (.cells #[.slice a5 s5.b.length c5, .int .i64 (s5.err : Int)] 27 (0, 0)) from hbA)
              have hlow := Lib.hid (show Stay (fun k => wr.heap.size ≤ k) w5 wA from hsA.mono (fun k (y : k = _) => by omega))
              have HSA := Lib.hid (show Stay (fun _ => False) wr wA from stay_seal (X := fun k => wr.heap.size ≤ k) ((HS5.out.mono (fun _ y => y.elim)).trans hlow.out) (fun _ hk => hk))
              have HSUB := Lib.hid (show Sub wA (.slice ax s.b.length cx) (.slice a5 s5.b.length c5) s5.b from ⟨slc_stayE HSU5.out.1 hlow.out (fun h0 k e hB => by have h1 := INV.out.xb (by have := HLE.out; omega) k (HSU5.out.2 k e); have h2 := INV.out.st.size; omega), HSU5.out.2⟩)
              have HGL := Lib.hid (show wr.heap.size ≤ wr.heap.size by have := HS5.out.size; omega)
              have HVA := Lib.hid (slc_stayE HV5.out.1 hlow.out (fun h0 k e hB => by have h1 := INV.out.xb (by have := HNL.out; omega) k (HV5.out.2 k e); have h2 := INV.out.st.size; omega))
              clear hbA hsA
              refine hK _ _ ?_ ?_
              · exact HSm.out _ HSA.out
              conv =>
                arg 8
                simp [Act.put]
              refine wpAnyH_takeL (i := 12) (v := .slice av n5.length cv) #[true, true, true, true, true, true, true, true, true, true, true, true, true] rfl (by kernel_rfl) (by kernel_rfl) (by kernel_rfl) (fun _ _ _ h => h) (by kernel_rfl) (HSm.out _ HSA.out) (Or.inl ⟨by rfl, fun W hW => ?_⟩) ?_
              · go_simp
              conv =>
                arg 8
                simp [Act.put]
              refine wpAnyH_done (by kernel_rfl) ?_ _
              clear HQ0 HQ1 HE0 HS HSm
              have HINA := Lib.hid (INV.out.stay0 HSA.out)
              have hgp : ¬ (wr.heap.size = p ∨ wr.heap.size = q) := by have h1 := RdAt.lt INV.out.r; have h2 := lt_of_block INV.out.b; have h3 := HGL.out; omega
              obtain ⟨S, hSd⟩ : ∃ S : World → Prop, S = Stay (fun k => k = p ∨ k = q) wA := ⟨_, rfl⟩
              have HS := Lib.hid (show ∀ W, S W → Stay (fun k => k = p ∨ k = q) wA W by intro W h; rw [hSd] at h; exact h)
              have HSm := Lib.hid (show ∀ W, Stay (fun k => k = p ∨ k = q) wA W → S W by intro W h; rw [hSd]; exact h)
              clear hSd
              have HG0 := Lib.hid (fun W (h : S W) => (two_cells (((HS.out W h).block _ (lt_of_block HBX.out) hgp).trans HBX.out)).1)
              have HG1 := Lib.hid (fun W (h : S W) => (two_cells (((HS.out W h).block _ (lt_of_block HBX.out) hgp).trans HBX.out)).2.1)
              have HE1 := Lib.hid (show ∀ W, S W → W.cell? ⟨lb, lo + i * 2 + 1, none⟩ = some (.int .i64 mo) from fun W h => (HS.out W h).cell (HINA.out.st.cell HC1.out (fun y => y)) (fun y => by have h1 := HINA.out.r.own.1; have h2 := HINA.out.qge; rcases y with y | y <;> (have y' : lb = _ := y; omega)))
              have HRA := Lib.hid (HINA.out.r.stay0 Stay.drew)
              have HVW := Lib.hid (fun W (h : S W) => slc_stayE HVA.out (HS.out W h) (fun h0 k e (y : k = p ∨ k = q) => by have h1 := HINA.out.r.own.1; have h2 := HINA.out.qge; have h3 := INV.out.xb (by have := HNL.out; omega) k (HV5.out.2 k e); rcases y with y | y <;> omega))
              clear hgp
              go_wp2
              refine wp_region_held (S := S) (by kernel_rfl) ?_
              change wpAnyH _ _ _ _ _ _ _ _ (World.drew _)
              refine wpAnyH_takeL (i := 0) (v := .agg #[.slice a5 s5.b.length c5, .int .i64 (s5.err : Int)]) #[true, false, false, false, false, false, false, false, false, false, false, false, false] rfl (by kernel_rfl) (by kernel_rfl) (by kernel_rfl) (fun _ _ _ h => h) (by kernel_rfl) (HSm.out _ Stay.drew) (Or.inl ⟨by rfl, fun W hW => ?_⟩) ?_
              · have k0 := HG0.out W hW
                have k1 := HG1.out W hW
                go_simp
              conv =>
                arg 8
                simp [Act.put]
              refine wpAnyH_takeL (i := 1) (v := .pointer (some ⟨p, 0, none⟩)) #[true, true, false, false, false, false, false, false, false, false, false, false, false] rfl (by kernel_rfl) (by kernel_rfl) (by kernel_rfl) (fun _ _ _ h => h) (by kernel_rfl) (HSm.out _ Stay.drew) (Or.inl ⟨by rfl, fun W hW => ?_⟩) ?_
              · go_simp
              conv =>
                arg 8
                simp [Act.put]
              refine wpAnyH_takeL (i := 2) (v := .slice (some ⟨lb, lo, none⟩) L.length c1) #[true, true, true, false, false, false, false, false, false, false, false, false, false] rfl (by kernel_rfl) (by kernel_rfl) (by kernel_rfl) (fun _ _ _ h => h) (by kernel_rfl) (HSm.out _ Stay.drew) (Or.inl ⟨by rfl, fun W hW => ?_⟩) ?_
              · go_simp
              conv =>
                arg 8
                simp [Act.put]
              refine wpAnyH_takeL (i := 3) (v := .int .i64 (i : Int)) #[true, true, true, true, false, false, false, false, false, false, false, false, false] rfl (by kernel_rfl) (by kernel_rfl) (by kernel_rfl) (fun _ _ _ h => h) (by kernel_rfl) (HSm.out _ Stay.drew) (Or.inl ⟨by rfl, fun W hW => ?_⟩) ?_
              · go_simp
              conv =>
                arg 8
                simp [Act.put]
              refine wpAnyH_takeL (i := 8) (v := .slice av n5.length cv) #[true, true, true, true, false, false, false, false, true, false, false, false, false] rfl (by kernel_rfl) (by kernel_rfl) (by kernel_rfl) (fun _ _ _ h => h) (by kernel_rfl) (HSm.out _ Stay.drew) (Or.inl ⟨by rfl, fun W hW => ?_⟩) ?_
              · go_simp
              conv =>
                arg 8
                simp [Act.put]
              refine wpAnyH_takeL (i := 9) (v := .string ⟨n5.toArray⟩) #[true, true, true, true, false, false, false, false, true, true, false, false, false] rfl (by kernel_rfl) (by kernel_rfl) (by kernel_rfl) (fun _ _ _ h => h) (by kernel_rfl) (HSm.out _ Stay.drew) (Or.inl ⟨by rfl, fun W hW => ?_⟩) ?_
              · have kc := conv_slc (HVW.out W hW)
                unfold strV at kc
                go_simp
              conv =>
                arg 8
                simp [Act.put]
              refine wpAnyH_takeL (i := 4) (v := .pointer (some ⟨lb, lo + i * 2, none⟩)) #[true, true, true, true, true, false, false, false, true, true, false, false, false] rfl (by kernel_rfl) (by kernel_rfl) (by kernel_rfl) (fun _ _ _ h => h) (by kernel_rfl) (HSm.out _ Stay.drew) (Or.inl ⟨by rfl, fun W hW => ?_⟩) ?_
              · go_simp
              conv =>
                arg 8
                simp [Act.put]
              refine wpAnyH_takeL (i := 5) (v := .pointer (some ⟨lb, lo + i * 2 + 1, none⟩)) #[true, true, true, true, true, true, false, false, true, true, false, false, false] rfl (by kernel_rfl) (by kernel_rfl) (by kernel_rfl) (fun _ _ _ h => h) (by kernel_rfl) (HSm.out _ Stay.drew) (Or.inl ⟨by rfl, fun W hW => ?_⟩) ?_
              · go_simp
              conv =>
                arg 8
                simp [Act.put]
              refine wpAnyH_takeL (i := 6) (v := .int .i64 mo) #[true, true, true, true, true, true, true, false, true, true, false, false, false] rfl (by kernel_rfl) (by kernel_rfl) (by kernel_rfl) (fun _ _ _ h => h) (by kernel_rfl) (HSm.out _ Stay.drew) (Or.inl ⟨by rfl, fun W hW => ?_⟩) ?_
              · have k0 := HE1.out W hW
                go_simp
              conv =>
                arg 8
                simp [Act.put]
              refine wpAnyH_one #[true, true, true, true, true, true, true, true, true, true, false, false, false] (i := 7) rfl (by kernel_rfl) (by kernel_rfl) (fun K hK => ?_)
              go_simp
              go_wp2_with (
                go_at_call 16
                refine (rtext_any (fun k => w.heap.size ≤ k ∧ k ≠ q) _ p s mo HRA.out INV.out.len hmo2).mono ?_
                rintro e w6 ⟨rfl, hr6, hs6⟩
                rw [HT.out] at hr6
                skip
                skip
                have HR6 := Lib.hid hr6
                have HS6 := Lib.hid hs6
                have HS6' := Lib.hid (show Stay (fun k => k = p ∨ k = q) wA w6 from Stay.drew.trans (hs6.mono (fun k y => .inl y)))
                clear hr6 hs6)
              rw [HT.out]
              unfold strV
              refine hK _ _ ?_ ?_
              · exact HSm.out _ HS6'.out
              conv =>
                arg 8
                simp [Act.put]
              refine wpAnyH_takeL (i := 10) (v := .bool true) #[true, true, true, true, true, true, true, true, true, true, true, false, false] rfl (by kernel_rfl) (by kernel_rfl) (by kernel_rfl) (fun _ _ _ h => h) (by kernel_rfl) (HSm.out _ HS6'.out) (Or.inl ⟨by rfl, fun W hW => ?_⟩) ?_
              · go_simp
              conv =>
                arg 8
                simp [Act.put]
              refine wpAnyH_one #[true, true, true, true, true, true, true, true, true, true, true, true, false] (i := 11) rfl (by kernel_rfl) (by kernel_rfl) (fun K hK => ?_)
              refine step_store_mid rfl 27 (.tmp 6) (.tmp 138) rfl (q) 0 rfl 27 _ [.slice a5 s5.b.length c5, .int .i64 (s5.err : Int)] rfl (show w6.heap[q]? = some (.cells [.slice ax s.b.length cx, .int .i64 (s.err : Int)].toArray _ (0, 0)) from (HS6.out.block _ (lt_of_block HINA.out.b) (fun (y : q = p) => HINA.out.r.own.2 y.symm)).trans HINA.out.b) (by kernel_rfl) (Nat.le_refl _) (by intro v hv; simp at hv; rcases hv with rfl | rfl <;> rfl) ?_
              intro w7 hb7 hs7
              have HB7 := Lib.hid hb7
              have HS7 := Lib.hid hs7
              have HS7' := Lib.hid (show Stay (fun k => k = p ∨ k = q) wA w7 from HS6'.out.trans (hs7.mono (fun k y => .inr y)))
              clear hb7 hs7
              refine hK _ _ ?_ ?_
              · exact HSm.out _ HS7'.out
              conv =>
                arg 8
                simp [Act.put]
              refine wpAnyH_takeL (i := 12) (v := .bool true) #[true, true, true, true, true, true, true, true, true, true, true, true, true] rfl (by kernel_rfl) (by kernel_rfl) (by kernel_rfl) (fun _ _ _ h => h) (by kernel_rfl) (HSm.out _ HS7'.out) (Or.inl ⟨by rfl, fun W hW => ?_⟩) ?_
              · go_simp
              conv =>
                arg 8
                simp [Act.put]
              refine wpAnyH_done (by kernel_rfl) ?_ _
              have INV7 := Lib.hid (AskInv.next INV.out (HSA.out.trans Stay.drew) (HSUB.out.stay0 Stay.drew) HLE.out HR6.out HS6.out HB7.out HS7.out)
              go_wp2
              obtain ⟨D, hDd⟩ : ∃ D : World → Prop, D = fun W => AskInv w W p q s5 (.slice a5 s5.b.length c5) := ⟨_, rfl⟩
              have HD := Lib.hid (show ∀ W, D W → AskInv w W p q s5 (.slice a5 s5.b.length c5) by intro W h; rw [hDd] at h; exact h)
              have HDm := Lib.hid (show ∀ W, AskInv w W p q s5 (.slice a5 s5.b.length c5) → D W by intro W h; rw [hDd]; exact h)
              clear hDd
              have HN := Lib.hid (HDm.out w7.drew (INV7.out.stay0 Stay.drew))
              have k1 := fun j : InC D => (two_cells (HD.out _ j.h).b).1
              have k2 := fun j : InC D => (two_cells (HD.out _ j.h).b).2.1
              have H1 := Lib.hid (show ∀ W, D W → Calls Tryd.prog 21 #[.pointer (some ⟨p, 0, none⟩)] W fun e w' => e = .returned (errV (doneB s5)) ∧ D w' from fun W h => (rdone_any _ _ p s5 (HD.out W h).r).mono fun e w' ⟨h1, h2⟩ => ⟨h1, h2 ▸ h⟩)
              have H2 := Lib.hid (show ∀ W, D W → Calls Tryd.prog 23 #[.pointer (some ⟨p, 0, none⟩)] W fun e w' => e = .returned (errV s5.err) ∧ D w' from fun W h => (err_any _ _ p s5 (HD.out W h).r).mono fun e w' ⟨h1, h2⟩ => ⟨h1, h2 ▸ h⟩)
              have H3 := Lib.hid (show ∀ c : Nat, ∀ W, D W → Calls Tryd.prog 20 #[errV c] W fun e w' => e = .returned (.int .i64 (c : Int)) ∧ D w' from fun c W h => (num_err c _ (ErrCell.stay0 HG.out (HD.out W h).st)).mono fun e w' ⟨h1, h2⟩ => ⟨h1, HDm.out _ ((HD.out W h).stay0 h2)⟩)
              have H4 := Lib.hid (show ∀ W, D W → Calls Tryd.prog 22 #[.agg #[.slice a5 s5.b.length c5, .int .i64 (s5.err : Int)]] W fun e w' => e = .returned (.int .i64 (doneB s5 : Nat)) ∧ D w' from fun W h => (rdone_agg s5 _ _ (HD.out W h).l).mono fun e w' ⟨h1, h2⟩ => ⟨h1, HDm.out _ ((HD.out W h).stay0 h2)⟩)
              have H5 := Lib.hid (show ∀ W, D W → Calls Tryd.prog 24 #[.pointer (some ⟨p, 0, none⟩)] W fun e w' => e = .returned (.int .i64 (s5.b.length : Int)) ∧ D w' from fun W h => (left_any _ _ p s5 (HD.out W h).r).mono fun e w' ⟨h1, h2⟩ => ⟨h1, h2 ▸ h⟩)
              haveI : Nonempty (InC D) := ⟨⟨_, HN.out⟩⟩
              refine wp_region_class D HN.out (by kernel_rfl) (by kernel_rfl) ?_
              repeat (go_big_quiet_step ((first
                | with_reducible exact calls_class H1.out
                | with_reducible exact calls_class H2.out
                | with_reducible exact calls_class (H3.out _)
                | with_reducible exact calls_class H4.out
                | with_reducible exact calls_class H5.out)))
              refine wpQuiet_nil ?_
              rintro W ⟨j, rfl⟩
              have hend := HD.out _ j.h
              clear k1 k2
              generalize j.w = w9 at *
              have HEND := Lib.hid hend
              clear hend
              go_wp2
              go_roundw
              case rel => exact ⟨i + 1, s5, _, by omega, by omega, by go_num, HEND.out⟩
              case measure => simp [intOf]; omega
      · as_aux_lemma =>
          obtain ⟨⟨n5, s5⟩, ht⟩ : ∃ t, takeB (textB mo) [] s = t := ⟨_, rfl⟩
          have HT := Lib.hid ht
          have HLE := Lib.hid (show s5.b.length ≤ s.b.length by have := takeB_len (rule := (textB mo)) (zero := []) (s := s) (fun _ _ h => textB_len h); rw [ht] at this; exact this)
          have HNL := Lib.hid (show n5.length ≤ s.b.length by have := takeB_text_len mo s; rw [ht] at this; exact this)
          clear ht
          obtain ⟨S, hSd⟩ : ∃ S : World → Prop, S = Stay (fun k => False) wr := ⟨_, rfl⟩
          have HS := Lib.hid (show ∀ W, S W → Stay (fun k => False) wr W by intro W h; rw [hSd] at h; exact h)
          have HSm := Lib.hid (show ∀ W, Stay (fun k => False) wr W → S W by intro W h; rw [hSd]; exact h)
          clear hSd
          have HQ0 := Lib.hid (fun W (h : S W) => (two_cells (((HS.out W h).block _ (lt_of_block INV.out.b) (fun y => y)).trans INV.out.b)).1)
          have HQ1 := Lib.hid (fun W (h : S W) => (two_cells (((HS.out W h).block _ (lt_of_block INV.out.b) (fun y => y)).trans INV.out.b)).2.1)
          have HE0 := Lib.hid (show ∀ W, S W → W.cell? ⟨lb, lo + i * 2 + 1, none⟩ = some (.int .i64 mo) from fun W h => (HS.out W h).cell (INV.out.st.cell HC1.out (fun y => y)) (fun y => y))
          go_wp2
          refine wp_region_held (S := S) (by kernel_rfl) ?_
          change wpAnyH _ _ _ _ _ _ _ _ (World.drew _)
          refine wpAnyH_takeL (i := 0) (v := .agg #[.slice ax s.b.length cx, .int .i64 (s.err : Int)]) #[true, false, false, false, false, false, false, false, false, false, false, false, false] rfl (by kernel_rfl) (by kernel_rfl) (by kernel_rfl) (fun _ _ _ h => h) (by kernel_rfl) (HSm.out _ Stay.drew) (Or.inl ⟨by rfl, fun W hW => ?_⟩) ?_
          · have k0 := HQ0.out W hW
            have k1 := HQ1.out W hW
            go_simp
          conv =>
            arg 8
            simp [Act.put]
          refine wpAnyH_takeL (i := 1) (v := .slice (some ⟨lb, lo, none⟩) L.length c1) #[true, true, false, false, false, false, false, false, false, false, false, false, false] rfl (by kernel_rfl) (by kernel_rfl) (by kernel_rfl) (fun _ _ _ h => h) (by kernel_rfl) (HSm.out _ Stay.drew) (Or.inl ⟨by rfl, fun W hW => ?_⟩) ?_
          · go_simp
          conv =>
            arg 8
            simp [Act.put]
          refine wpAnyH_takeL (i := 2) (v := .int .i64 (i : Int)) #[true, true, true, false, false, false, false, false, false, false, false, false, false] rfl (by kernel_rfl) (by kernel_rfl) (by kernel_rfl) (fun _ _ _ h => h) (by kernel_rfl) (HSm.out _ Stay.drew) (Or.inl ⟨by rfl, fun W hW => ?_⟩) ?_
          · go_simp
          conv =>
            arg 8
            simp [Act.put]
          refine wpAnyH_takeL (i := 3) (v := .pointer (some ⟨lb, lo + i * 2, none⟩)) #[true, true, true, true, false, false, false, false, false, false, false, false, false] rfl (by kernel_rfl) (by kernel_rfl) (by kernel_rfl) (fun _ _ _ h => h) (by kernel_rfl) (HSm.out _ Stay.drew) (Or.inl ⟨by rfl, fun W hW => ?_⟩) ?_
          · go_simp
          conv =>
            arg 8
            simp [Act.put]
          refine wpAnyH_takeL (i := 4) (v := .pointer (some ⟨lb, lo + i * 2 + 1, none⟩)) #[true, true, true, true, true, false, false, false, false, false, false, false, false] rfl (by kernel_rfl) (by kernel_rfl) (by kernel_rfl) (fun _ _ _ h => h) (by kernel_rfl) (HSm.out _ Stay.drew) (Or.inl ⟨by rfl, fun W hW => ?_⟩) ?_
          · go_simp
          conv =>
            arg 8
            simp [Act.put]
          refine wpAnyH_takeL (i := 5) (v := .int .i64 mo) #[true, true, true, true, true, true, false, false, false, false, false, false, false] rfl (by kernel_rfl) (by kernel_rfl) (by kernel_rfl) (fun _ _ _ h => h) (by kernel_rfl) (HSm.out _ Stay.drew) (Or.inl ⟨by rfl, fun W hW => ?_⟩) ?_
          · have k0 := HE0.out W hW
            go_simp
          conv =>
            arg 8
            simp [Act.put]
          refine wpAnyH_two (i := 6) (j := 10) #[true, true, true, true, true, true, true, false, false, false, false, false, false] #[true, true, true, true, true, true, false, false, false, false, true, false, false] rfl rfl (by kernel_rfl) (by kernel_rfl) (by kernel_rfl) (fun K hK => ?_) (fun K hK => ?_)
          · as_aux_lemma =>
              go_simp
              go_wp2_with (
                go_at_call 15
                refine (rrbytes_any s.b s.err mo _ _ (INV.out.l.stay0 Stay.drew) hmo2).mono ?_
                rintro e w5 ⟨hret, hs5⟩
                rw [show (⟨s.b, s.err⟩ : RS) = s from rfl, HT.out] at hret
                obtain ⟨x5, v5, rfl, hsub5, hvb5⟩ := hret
                obtain ⟨a5, c5, rfl, _⟩ := id hsub5.1
                obtain ⟨av, cv, rfl, _⟩ := id hvb5.1
                have HV5 := Lib.hid hvb5
  
                have HS5 := Lib.hid (show Stay (fun _ => False) wr w5 from Stay.drew.trans hs5)
                have HSU5 := Lib.hid hsub5
                clear hs5 hsub5)
              unfold rdV 
              refine hK _ _ ?_ ?_
              · exact HSm.out _ HS5.out
              conv =>
                arg 8
                simp [Act.put]
              refine wpAnyH_takeL (i := 7) (v := .tuple #[.agg #[.slice a5 s5.b.length c5, .int .i64 (s5.err : Int)], .slice av n5.length cv]) #[true, true, true, true, true, true, true, true, false, false, false, false, false] rfl (by kernel_rfl) (by kernel_rfl) (by kernel_rfl) (fun _ _ _ h => h) (by kernel_rfl) (HSm.out _ HS5.out) (Or.inl ⟨by rfl, fun W hW => ?_⟩) ?_
              · go_simp
              conv =>
                arg 8
                simp [Act.put]
              refine wpAnyH_takeL (i := 8) (v := .agg #[.slice a5 s5.b.length c5, .int .i64 (s5.err : Int)]) #[true, true, true, true, true, true, true, true, true, false, false, false, false] rfl (by kernel_rfl) (by kernel_rfl) (by kernel_rfl) (fun _ _ _ h => h) (by kernel_rfl) (HSm.out _ HS5.out) (Or.inl ⟨by rfl, fun W hW => ?_⟩) ?_
              · go_simp
              conv =>
                arg 8
                simp [Act.put]
              refine wpAnyH_takeL (i := 9) (v := .slice av n5.length cv) #[true, true, true, true, true, true, true, true, true, true, false, false, false] rfl (by kernel_rfl) (by kernel_rfl) (by kernel_rfl) (fun _ _ _ h => h) (by kernel_rfl) (HSm.out _ HS5.out) (Or.inl ⟨by rfl, fun W hW => ?_⟩) ?_
              · go_simp
              conv =>
                arg 8
                simp [Act.put]
              refine wpAnyH_one #[true, true, true, true, true, true, true, true, true, true, true, false, false] (i := 10) rfl (by kernel_rfl) (by kernel_rfl) (fun K hK => ?_)
              go_simp
              refine hK _ _ ?_ ?_
              · exact HSm.out _ (HS5.out.trans (Stay.alloc _ _))
              conv =>
                arg 8
                simp [Act.put]
              refine wpAnyH_one #[true, true, true, true, true, true, true, true, true, true, true, true, false] (i := 11) rfl (by kernel_rfl) (by kernel_rfl) (fun K hK => ?_)
              refine step_store_mid rfl 27 (.tmp 19) (.tmp 159) rfl (w5.heap.size) 0 rfl 27 _ [.slice a5 s5.b.length c5, .int .i64 (s5.err : Int)] rfl (heap_alloc_new w5 (.cells #[.slice none 0 0, .int .i64 0] 27)) (by kernel_rfl) (Nat.le_refl _) (by intro v hv; simp at hv; rcases hv with rfl | rfl <;> rfl) ?_
              intro wA hbA hsA
              have HBX := Lib.hid (show wA.heap[w5.heap.size]? = some (.cells #[.slice a5 s5.b.length c5, .int .i64 (s5.err : Int)] 27 (0, 0)) from hbA)
              have hlow := Lib.hid (show Stay (fun k => wr.heap.size ≤ k) w5 wA from ((Stay.alloc (X := fun _ => False) _ _).mono (fun _ y => y.elim)).trans (hsA.mono (fun k (y : k = _) => by have := HS5.out.size; omega)))
              have HSA := Lib.hid (show Stay (fun _ => False) wr wA from stay_seal (X := fun k => wr.heap.size ≤ k) ((HS5.out.mono (fun _ y => y.elim)).trans hlow.out) (fun _ hk => hk))
              have HSUB := Lib.hid (show Sub wA (.slice ax s.b.length cx) (.slice a5 s5.b.length c5) s5.b from ⟨slc_stayE HSU5.out.1 hlow.out (fun h0 k e hB => by have h1 := INV.out.xb (by have := HLE.out; omega) k (HSU5.out.2 k e); have h2 := INV.out.st.size; omega), HSU5.out.2⟩)
              have HGL := Lib.hid (show wr.heap.size ≤ w5.heap.size by have := HS5.out.size; omega)
              have HVA := Lib.hid (slc_stayE HV5.out.1 hlow.out (fun h0 k e hB => by have h1 := INV.out.xb (by have := HNL.out; omega) k (HV5.out.2 k e); have h2 := INV.out.st.size; omega))
              clear hbA hsA
              refine hK _ _ ?_ ?_
              · exact HSm.out _ HSA.out
              conv =>
                arg 8
                simp [Act.put]
              refine wpAnyH_takeL (i := 12) (v := .slice av n5.length cv) #[true, true, true, true, true, true, true, true, true, true, true, true, true] rfl (by kernel_rfl) (by kernel_rfl) (by kernel_rfl) (fun _ _ _ h => h) (by kernel_rfl) (HSm.out _ HSA.out) (Or.inl ⟨by rfl, fun W hW => ?_⟩) ?_
              · go_simp
              conv =>
                arg 8
                simp [Act.put]
              refine wpAnyH_done (by kernel_rfl) ?_ _
              clear HQ0 HQ1 HE0 HS HSm
              have HINA := Lib.hid (INV.out.stay0 HSA.out)
              have hgp : ¬ (w5.heap.size = p ∨ w5.heap.size = q) := by have h1 := RdAt.lt INV.out.r; have h2 := lt_of_block INV.out.b; have h3 := HGL.out; omega
              obtain ⟨S, hSd⟩ : ∃ S : World → Prop, S = Stay (fun k => k = p ∨ k = q) wA := ⟨_, rfl⟩
              have HS := Lib.hid (show ∀ W, S W → Stay (fun k => k = p ∨ k = q) wA W by intro W h; rw [hSd] at h; exact h)
              have HSm := Lib.hid (show ∀ W, Stay (fun k => k = p ∨ k = q) wA W → S W by intro W h; rw [hSd]; exact h)
              clear hSd
              have HG0 := Lib.hid (fun W (h : S W) => (two_cells (((HS.out W h).block _ (lt_of_block HBX.out) hgp).trans HBX.out)).1)
              have HG1 := Lib.hid (fun W (h : S W) => (two_cells (((HS.out W h).block _ (lt_of_block HBX.out) hgp).trans HBX.out)).2.1)
              have HE1 := Lib.hid (show ∀ W, S W → W.cell? ⟨lb, lo + i * 2 + 1, none⟩ = some (.int .i64 mo) from fun W h => (HS.out W h).cell (HINA.out.st.cell HC1.out (fun y => y)) (fun y => by have h1 := HINA.out.r.own.1; have h2 := HINA.out.qge; rcases y with y | y <;> (have y' : lb = _ := y; omega)))
              have HRA := Lib.hid (HINA.out.r.stay0 Stay.drew)
              have HVW := Lib.hid (fun W (h : S W) => slc_stayE HVA.out (HS.out W h) (fun h0 k e (y : k = p ∨ k = q) => by have h1 := HINA.out.r.own.1; have h2 := HINA.out.qge; have h3 := INV.out.xb (by have := HNL.out; omega) k (HV5.out.2 k e); rcases y with y | y <;> omega))
              clear hgp
              go_wp2
              refine wp_region_held (S := S) (by kernel_rfl) ?_
              change wpAnyH _ _ _ _ _ _ _ _ (World.drew _)
              refine wpAnyH_takeL (i := 0) (v := .agg #[.slice a5 s5.b.length c5, .int .i64 (s5.err : Int)]) #[true, false, false, false, false, false, false, false, false, false, false, false, false, false] rfl (by kernel_rfl) (by kernel_rfl) (by kernel_rfl) (fun _ _ _ h => h) (by kernel_rfl) (HSm.out _ Stay.drew) (Or.inl ⟨by rfl, fun W hW => ?_⟩) ?_
              · have k0 := HG0.out W hW
                have k1 := HG1.out W hW
                go_simp
              conv =>
                arg 8
                simp [Act.put]
              refine wpAnyH_takeL (i := 1) (v := .pointer (some ⟨p, 0, none⟩)) #[true, true, false, false, false, false, false, false, false, false, false, false, false, false] rfl (by kernel_rfl) (by kernel_rfl) (by kernel_rfl) (fun _ _ _ h => h) (by kernel_rfl) (HSm.out _ Stay.drew) (Or.inl ⟨by rfl, fun W hW => ?_⟩) ?_
              · go_simp
              conv =>
                arg 8
                simp [Act.put]
              refine wpAnyH_takeL (i := 2) (v := .slice (some ⟨lb, lo, none⟩) L.length c1) #[true, true, true, false, false, false, false, false, false, false, false, false, false, false] rfl (by kernel_rfl) (by kernel_rfl) (by kernel_rfl) (fun _ _ _ h => h) (by kernel_rfl) (HSm.out _ Stay.drew) (Or.inl ⟨by rfl, fun W hW => ?_⟩) ?_
              · go_simp
              conv =>
                arg 8
                simp [Act.put]
              refine wpAnyH_takeL (i := 3) (v := .int .i64 (i : Int)) #[true, true, true, true, false, false, false, false, false, false, false, false, false, false] rfl (by kernel_rfl) (by kernel_rfl) (by kernel_rfl) (fun _ _ _ h => h) (by kernel_rfl) (HSm.out _ Stay.drew) (Or.inl ⟨by rfl, fun W hW => ?_⟩) ?_
              · go_simp
              conv =>
                arg 8
                simp [Act.put]
              refine wpAnyH_takeL (i := 9) (v := .slice av n5.length cv) #[true, true, true, true, false, false, false, false, false, true, false, false, false, false] rfl (by kernel_rfl) (by kernel_rfl) (by kernel_rfl) (fun _ _ _ h => h) (by kernel_rfl) (HSm.out _ Stay.drew) (Or.inl ⟨by rfl, fun W hW => ?_⟩) ?_
              · go_simp
              conv =>
                arg 8
                simp [Act.put]
              refine wpAnyH_takeL (i := 10) (v := .string ⟨n5.toArray⟩) #[true, true, true, true, false, false, false, false, false, true, true, false, false, false] rfl (by kernel_rfl) (by kernel_rfl) (by kernel_rfl) (fun _ _ _ h => h) (by kernel_rfl) (HSm.out _ Stay.drew) (Or.inl ⟨by rfl, fun W hW => ?_⟩) ?_
              · have kc := conv_slc (HVW.out W hW)
                unfold strV at kc
                go_simp
              conv =>
                arg 8
                simp [Act.put]
              refine wpAnyH_takeL (i := 4) (v := .pointer (some ⟨lb, lo + i * 2, none⟩)) #[true, true, true, true, true, false, false, false, false, true, true, false, false, false] rfl (by kernel_rfl) (by kernel_rfl) (by kernel_rfl) (fun _ _ _ h => h) (by kernel_rfl) (HSm.out _ Stay.drew) (Or.inl ⟨by rfl, fun W hW => ?_⟩) ?_
              · go_simp
              conv =>
                arg 8
                simp [Act.put]
              refine wpAnyH_takeL (i := 5) (v := .pointer (some ⟨lb, lo + i * 2 + 1, none⟩)) #[true, true, true, true, true, true, false, false, false, true, true, false, false, false] rfl (by kernel_rfl) (by kernel_rfl) (by kernel_rfl) (fun _ _ _ h => h) (by kernel_rfl) (HSm.out _ Stay.drew) (Or.inl ⟨by rfl, fun W hW => ?_⟩) ?_
              · go_simp
              conv =>
                arg 8
                simp [Act.put]
              refine wpAnyH_takeL (i := 6) (v := .int .i64 mo) #[true, true, true, true, true, true, true, false, false, true, true, false, false, false] rfl (by kernel_rfl) (by kernel_rfl) (by kernel_rfl) (fun _ _ _ h => h) (by kernel_rfl) (HSm.out _ Stay.drew) (Or.inl ⟨by rfl, fun W hW => ?_⟩) ?_
              · have k0 := HE1.out W hW
                go_simp
              conv =>
                arg 8
                simp [Act.put]
              refine wpAnyH_one #[true, true, true, true, true, true, true, true, false, true, true, false, false, false] (i := 7) rfl (by kernel_rfl) (by kernel_rfl) (fun K hK => ?_)
              go_simp
              go_wp2_with (
                go_at_call 17
                refine (rbytes_any (fun k => w.heap.size ≤ k ∧ k ≠ q) _ p s mo HRA.out INV.out.len hmo2).mono ?_
                rintro e w6 ⟨⟨v6, rfl, ho6⟩, hr6, hs6⟩
                rw [HT.out] at hr6 ho6
                obtain ⟨a6, c6, rfl⟩ := ho6.form
                have HO6 := Lib.hid ho6
                have HR6 := Lib.hid hr6
                have HS6 := Lib.hid hs6
                have HS6' := Lib.hid (show Stay (fun k => k = p ∨ k = q) wA w6 from Stay.drew.trans (hs6.mono (fun k y => .inl y)))
                clear hr6 hs6)
              skip
              skip
              refine hK _ _ ?_ ?_
              · exact HSm.out _ HS6'.out
              conv =>
                arg 8
                simp [Act.put]
              refine wpAnyH_two (i := 8) (j := 12) #[true, true, true, true, true, true, true, true, true, true, true, false, false, false] #[true, true, true, true, true, true, true, true, false, true, true, false, true, false] rfl rfl (by kernel_rfl) (by kernel_rfl) (by kernel_rfl) (fun K hK => ?_) (fun K hK => ?_)
              · have kc6 := conv_slc HO6.out.slc
                unfold strV at kc6
                go_simp
                refine hK _ _ ?_ ?_
                · exact HSm.out _ HS6'.out
                conv =>
                  arg 8
                  simp [Act.put]
                clear kc6
                refine wpAnyH_takeL (i := 11) (v := .bool true) #[true, true, true, true, true, true, true, true, true, true, true, true, false, false] rfl (by kernel_rfl) (by kernel_rfl) (by kernel_rfl) (fun _ _ _ h => h) (by kernel_rfl) (HSm.out _ HS6'.out) (Or.inl ⟨by rfl, fun W hW => ?_⟩) ?_
                · go_simp
                conv =>
                  arg 8
                  simp [Act.put]
                refine wpAnyH_one #[true, true, true, true, true, true, true, true, true, true, true, true, true, false] (i := 12) rfl (by kernel_rfl) (by kernel_rfl) (fun K hK => ?_)
                refine step_store_mid rfl 27 (.tmp 6) (.tmp 161) rfl (q) 0 rfl 27 _ [.slice a5 s5.b.length c5, .int .i64 (s5.err : Int)] rfl (show w6.heap[q]? = some (.cells [.slice ax s.b.length cx, .int .i64 (s.err : Int)].toArray _ (0, 0)) from (HS6.out.block _ (lt_of_block HINA.out.b) (fun (y : q = p) => HINA.out.r.own.2 y.symm)).trans HINA.out.b) (by kernel_rfl) (Nat.le_refl _) (by intro v hv; simp at hv; rcases hv with rfl | rfl <;> rfl) ?_
                intro w7 hb7 hs7
                have HB7 := Lib.hid hb7
                have HS7 := Lib.hid hs7
                have HS7' := Lib.hid (show Stay (fun k => k = p ∨ k = q) wA w7 from HS6'.out.trans (hs7.mono (fun k y => .inr y)))
                clear hb7 hs7
                refine hK _ _ ?_ ?_
                · exact HSm.out _ HS7'.out
                conv =>
                  arg 8
                  simp [Act.put]
                refine wpAnyH_takeL (i := 13) (v := .bool true) #[true, true, true, true, true, true, true, true, true, true, true, true, true, true] rfl (by kernel_rfl) (by kernel_rfl) (by kernel_rfl) (fun _ _ _ h => h) (by kernel_rfl) (HSm.out _ HS7'.out) (Or.inl ⟨by rfl, fun W hW => ?_⟩) ?_
                · go_simp
                conv =>
                  arg 8
                  simp [Act.put]
                refine wpAnyH_done (by kernel_rfl) ?_ _
                have INV7 := Lib.hid (AskInv.next INV.out (HSA.out.trans Stay.drew) (HSUB.out.stay0 Stay.drew) HLE.out HR6.out HS6.out HB7.out HS7.out)
                go_wp2
                obtain ⟨D, hDd⟩ : ∃ D : World → Prop, D = fun W => AskInv w W p q s5 (.slice a5 s5.b.length c5) := ⟨_, rfl⟩
                have HD := Lib.hid (show ∀ W, D W → AskInv w W p q s5 (.slice a5 s5.b.length c5) by intro W h; rw [hDd] at h; exact h)
                have HDm := Lib.hid (show ∀ W, AskInv w W p q s5 (.slice a5 s5.b.length c5) → D W by intro W h; rw [hDd]; exact h)
                clear hDd
                have HN := Lib.hid (HDm.out w7.drew (INV7.out.stay0 Stay.drew))
                have k1 := fun j : InC D => (two_cells (HD.out _ j.h).b).1
                have k2 := fun j : InC D => (two_cells (HD.out _ j.h).b).2.1
                have H1 := Lib.hid (show ∀ W, D W → Calls Tryd.prog 21 #[.pointer (some ⟨p, 0, none⟩)] W fun e w' => e = .returned (errV (doneB s5)) ∧ D w' from fun W h => (rdone_any _ _ p s5 (HD.out W h).r).mono fun e w' ⟨h1, h2⟩ => ⟨h1, h2 ▸ h⟩)
                have H2 := Lib.hid (show ∀ W, D W → Calls Tryd.prog 23 #[.pointer (some ⟨p, 0, none⟩)] W fun e w' => e = .returned (errV s5.err) ∧ D w' from fun W h => (err_any _ _ p s5 (HD.out W h).r).mono fun e w' ⟨h1, h2⟩ => ⟨h1, h2 ▸ h⟩)
                have H3 := Lib.hid (show ∀ c : Nat, ∀ W, D W → Calls Tryd.prog 20 #[errV c] W fun e w' => e = .returned (.int .i64 (c : Int)) ∧ D w' from fun c W h => (num_err c _ (ErrCell.stay0 HG.out (HD.out W h).st)).mono fun e w' ⟨h1, h2⟩ => ⟨h1, HDm.out _ ((HD.out W h).stay0 h2)⟩)
                have H4 := Lib.hid (show ∀ W, D W → Calls Tryd.prog 22 #[.agg #[.slice a5 s5.b.length c5, .int .i64 (s5.err : Int)]] W fun e w' => e = .returned (.int .i64 (doneB s5 : Nat)) ∧ D w' from fun W h => (rdone_agg s5 _ _ (HD.out W h).l).mono fun e w' ⟨h1, h2⟩ => ⟨h1, HDm.out _ ((HD.out W h).stay0 h2)⟩)
                have H5 := Lib.hid (show ∀ W, D W → Calls Tryd.prog 24 #[.pointer (some ⟨p, 0, none⟩)] W fun e w' => e = .returned (.int .i64 (s5.b.length : Int)) ∧ D w' from fun W h => (left_any _ _ p s5 (HD.out W h).r).mono fun e w' ⟨h1, h2⟩ => ⟨h1, h2 ▸ h⟩)
                haveI : Nonempty (InC D) := ⟨⟨_, HN.out⟩⟩
                refine wp_region_class D HN.out (by kernel_rfl) (by kernel_rfl) ?_
                repeat (go_big_quiet_step ((first
                  | with_reducible exact calls_class H1.out
                  | with_reducible exact calls_class H2.out
                  | with_reducible exact calls_class (H3.out _)
                  | with_reducible exact calls_class H4.out
                  | with_reducible exact calls_class H5.out)))
                refine wpQuiet_nil ?_
                rintro W ⟨j, rfl⟩
                have hend := HD.out _ j.h
                clear k1 k2
                generalize j.w = w9 at *
                have HEND := Lib.hid hend
                clear hend
                go_wp2
                go_roundw
                case rel => exact ⟨i + 1, s5, _, by omega, by omega, by go_num, HEND.out⟩
                case measure => simp [intOf]; omega
              · refine step_store_mid rfl 27 (.tmp 6) (.tmp 161) rfl (q) 0 rfl 27 _ [.slice a5 s5.b.length c5, .int .i64 (s5.err : Int)] rfl (show w6.heap[q]? = some (.cells [.slice ax s.b.length cx, .int .i64 (s.err : Int)].toArray _ (0, 0)) from (HS6.out.block _ (lt_of_block HINA.out.b) (fun (y : q = p) => HINA.out.r.own.2 y.symm)).trans HINA.out.b) (by kernel_rfl) (Nat.le_refl _) (by intro v hv; simp at hv; rcases hv with rfl | rfl <;> rfl) ?_
                intro w7 hb7 hs7
                have HB7 := Lib.hid hb7
                have HS7 := Lib.hid hs7
                have HS7' := Lib.hid (show Stay (fun k => k = p ∨ k = q) wA w7 from HS6'.out.trans (hs7.mono (fun k y => .inr y)))
                clear hb7 hs7
                refine hK _ _ ?_ ?_
                · exact HSm.out _ HS7'.out
                conv =>
                  arg 8
                  simp [Act.put]
                refine wpAnyH_one #[true, true, true, true, true, true, true, true, true, true, true, false, true, false] (i := 8) rfl (by kernel_rfl) (by kernel_rfl) (fun K hK => ?_)
                have kc6 := conv_slc (slc_stayE HO6.out.slc HS7.out (fun h0 k e (y : k = q) => by have h1 := (HO6.out.lt k e).1; have h2 := lt_of_block HINA.out.b; have h3 : wA.drew.heap.size = wA.heap.size := rfl; omega))
                unfold strV at kc6
                go_simp
                refine hK _ _ ?_ ?_
                · exact HSm.out _ HS7'.out
                conv =>
                  arg 8
                  simp [Act.put]
                clear kc6
                refine wpAnyH_takeL (i := 11) (v := .bool true) #[true, true, true, true, true, true, true, true, true, true, true, true, true, false] rfl (by kernel_rfl) (by kernel_rfl) (by kernel_rfl) (fun _ _ _ h => h) (by kernel_rfl) (HSm.out _ HS7'.out) (Or.inl ⟨by rfl, fun W hW => ?_⟩) ?_
                · go_simp
                conv =>
                  arg 8
                  simp [Act.put]
                refine wpAnyH_takeL (i := 13) (v := .bool true) #[true, true, true, true, true, true, true, true, true, true, true, true, true, true] rfl (by kernel_rfl) (by kernel_rfl) (by kernel_rfl) (fun _ _ _ h => h) (by kernel_rfl) (HSm.out _ HS7'.out) (Or.inl ⟨by rfl, fun W hW => ?_⟩) ?_
                · go_simp
                conv =>
                  arg 8
                  simp [Act.put]
                refine wpAnyH_done (by kernel_rfl) ?_ _
                have INV7 := Lib.hid (AskInv.next INV.out (HSA.out.trans Stay.drew) (HSUB.out.stay0 Stay.drew) HLE.out HR6.out HS6.out HB7.out HS7.out)
                go_wp2
                obtain ⟨D, hDd⟩ : ∃ D : World → Prop, D = fun W => AskInv w W p q s5 (.slice a5 s5.b.length c5) := ⟨_, rfl⟩
                have HD := Lib.hid (show ∀ W, D W → AskInv w W p q s5 (.slice a5 s5.b.length c5) by intro W h; rw [hDd] at h; exact h)
                have HDm := Lib.hid (show ∀ W, AskInv w W p q s5 (.slice a5 s5.b.length c5) → D W by intro W h; rw [hDd]; exact h)
                clear hDd
                have HN := Lib.hid (HDm.out w7.drew (INV7.out.stay0 Stay.drew))
                have k1 := fun j : InC D => (two_cells (HD.out _ j.h).b).1
                have k2 := fun j : InC D => (two_cells (HD.out _ j.h).b).2.1
                have H1 := Lib.hid (show ∀ W, D W → Calls Tryd.prog 21 #[.pointer (some ⟨p, 0, none⟩)] W fun e w' => e = .returned (errV (doneB s5)) ∧ D w' from fun W h => (rdone_any _ _ p s5 (HD.out W h).r).mono fun e w' ⟨h1, h2⟩ => ⟨h1, h2 ▸ h⟩)
                have H2 := Lib.hid (show ∀ W, D W → Calls Tryd.prog 23 #[.pointer (some ⟨p, 0, none⟩)] W fun e w' => e = .returned (errV s5.err) ∧ D w' from fun W h => (err_any _ _ p s5 (HD.out W h).r).mono fun e w' ⟨h1, h2⟩ => ⟨h1, h2 ▸ h⟩)
                have H3 := Lib.hid (show ∀ c : Nat, ∀ W, D W → Calls Tryd.prog 20 #[errV c] W fun e w' => e = .returned (.int .i64 (c : Int)) ∧ D w' from fun c W h => (num_err c _ (ErrCell.stay0 HG.out (HD.out W h).st)).mono fun e w' ⟨h1, h2⟩ => ⟨h1, HDm.out _ ((HD.out W h).stay0 h2)⟩)
                have H4 := Lib.hid (show ∀ W, D W → Calls Tryd.prog 22 #[.agg #[.slice a5 s5.b.length c5, .int .i64 (s5.err : Int)]] W fun e w' => e = .returned (.int .i64 (doneB s5 : Nat)) ∧ D w' from fun W h => (rdone_agg s5 _ _ (HD.out W h).l).mono fun e w' ⟨h1, h2⟩ => ⟨h1, HDm.out _ ((HD.out W h).stay0 h2)⟩)
                have H5 := Lib.hid (show ∀ W, D W → Calls Tryd.prog 24 #[.pointer (some ⟨p, 0, none⟩)] W fun e w' => e = .returned (.int .i64 (s5.b.length : Int)) ∧ D w' from fun W h => (left_any _ _ p s5 (HD.out W h).r).mono fun e w' ⟨h1, h2⟩ => ⟨h1, h2 ▸ h⟩)
                haveI : Nonempty (InC D) := ⟨⟨_, HN.out⟩⟩
                refine wp_region_class D HN.out (by kernel_rfl) (by kernel_rfl) ?_
                repeat (go_big_quiet_step ((first
                  | with_reducible exact calls_class H1.out
                  | with_reducible exact calls_class H2.out
                  | with_reducible exact calls_class (H3.out _)
                  | with_reducible exact calls_class H4.out
                  | with_reducible exact calls_class H5.out)))
                refine wpQuiet_nil ?_
                rintro W ⟨j, rfl⟩
                have hend := HD.out _ j.h
                clear k1 k2
                generalize j.w = w9 at *
                have HEND := Lib.hid hend
                clear hend
                go_wp2
                go_roundw
                case rel => exact ⟨i + 1, s5, _, by omega, by omega, by go_num, HEND.out⟩
                case measure => simp [intOf]; omega
          · as_aux_lemma =>
              go_simp
              refine hK _ _ ?_ ?_
              · exact HSm.out _ (Stay.drew.trans (Stay.alloc _ _))
              conv =>
                arg 8
                simp [Act.put]
              refine wpAnyH_one #[true, true, true, true, true, true, true, false, false, false, true, false, false] (i := 6) rfl (by kernel_rfl) (by kernel_rfl) (fun K hK => ?_)
              go_simp
              go_wp2_with (
                go_at_call 15
                refine (rrbytes_any s.b s.err mo _ _ ((INV.out.l.stay0 Stay.drew).stay0 (Stay.alloc _ _)) hmo2).mono ?_
                rintro e w5 ⟨hret, hs5⟩
                rw [show (⟨s.b, s.err⟩ : RS) = s from rfl, HT.out] at hret
                obtain ⟨x5, v5, rfl, hsub5, hvb5⟩ := hret
                obtain ⟨a5, c5, rfl, _⟩ := id hsub5.1
                obtain ⟨av, cv, rfl, _⟩ := id hvb5.1
                have HV5 := Lib.hid hvb5
                have HB5 := Lib.hid ((hs5.block _ (by simp) (fun y => y)).trans (heap_alloc_new wr.drew _))
                have HS5 := Lib.hid (show Stay (fun _ => False) wr w5 from (Stay.drew.trans (Stay.alloc _ _)).trans hs5)
                have HSU5 := Lib.hid hsub5
                clear hs5 hsub5)
              unfold rdV 
              refine hK _ _ ?_ ?_
              · exact HSm.out _ HS5.out
              conv =>
                arg 8
                simp [Act.put]
              refine wpAnyH_takeL (i := 7) (v := .tuple #[.agg #[.slice a5 s5.b.length c5, .int .i64 (s5.err : Int)], .slice av n5.length cv]) #[true, true, true, true, true, true, true, true, false, false, true, false, false] rfl (by kernel_rfl) (by kernel_rfl) (by kernel_rfl) (fun _ _ _ h => h) (by kernel_rfl) (HSm.out _ HS5.out) (Or.inl ⟨by rfl, fun W hW => ?_⟩) ?_
              · go_simp
              conv =>
                arg 8
                simp [Act.put]
              refine wpAnyH_takeL (i := 8) (v := .agg #[.slice a5 s5.b.length c5, .int .i64 (s5.err : Int)]) #[true, true, true, true, true, true, true, true, true, false, true, false, false] rfl (by kernel_rfl) (by kernel_rfl) (by kernel_rfl) (fun _ _ _ h => h) (by kernel_rfl) (HSm.out _ HS5.out) (Or.inl ⟨by rfl, fun W hW => ?_⟩) ?_
              · go_simp
              conv =>
                arg 8
                simp [Act.put]
              refine wpAnyH_takeL (i := 9) (v := .slice av n5.length cv) #[true, true, true, true, true, true, true, true, true, true, true, false, false] rfl (by kernel_rfl) (by kernel_rfl) (by kernel_rfl) (fun _ _ _ h => h) (by kernel_rfl) (HSm.out _ HS5.out) (Or.inl ⟨by rfl, fun W hW => ?_⟩) ?_
              · go_simp
              conv =>
                arg 8
                simp [Act.put]
              refine wpAnyH_one #[true, true, true, true, true, true, true, true, true, true, true, true, false] (i := 11) rfl (by kernel_rfl) (by kernel_rfl) (fun K hK => ?_)
              refine step_store_mid rfl 27 (.tmp 19) (.tmp 159) rfl (wr.heap.size) 0 rfl 27 _ [.slice a5 s5.b.length c5, .int .i64 (s5.err : Int)] rfl HB5.out (by kernel_rfl) (Nat.le_refl _) (by intro v hv; simp at hv; rcases hv with rfl | rfl <;> rfl) ?_
              intro wA hbA hsA
              have HBX := Lib.hid (show wA.heap[wr.heap.size]? = some (.cells #[.slice a5 s5.b.length c5, .int .i64 (s5.err : Int)] 27 (0, 0)) from hbA)
              have hlow := Lib.hid (show Stay (fun k => wr.heap.size ≤ k) w5 wA from hsA.mono (fun k (y : k = _) => by omega))
              have HSA := Lib.hid (show Stay (fun _ => False) wr wA from stay_seal (X := fun k => wr.heap.size ≤ k) ((HS5.out.mono (fun _ y => y.elim)).trans hlow.out) (fun _ hk => hk))
              have HSUB := Lib.hid (show Sub wA (.slice ax s.b.length cx) (.slice a5 s5.b.length c5) s5.b from ⟨slc_stayE HSU5.out.1 hlow.out (fun h0 k e hB => by have h1 := INV.out.xb (by have := HLE.out; omega) k (HSU5.out.2 k e); have h2 := INV.out.st.size; omega), HSU5.out.2⟩)
              have HGL := Lib.hid (show wr.heap.size ≤ wr.heap.size by have := HS5.out.size; omega)
              have HVA := Lib.hid (slc_stayE HV5.out.1 hlow.out (fun h0 k e hB => by have h1 := INV.out.xb (by have := HNL.out; omega) k (HV5.out.2 k e); have h2 := INV.out.st.size; omega))
              clear hbA hsA
              refine hK _ _ ?_ ?_
              · exact HSm.out _ HSA.out
              conv =>
                arg 8
                simp [Act.put]
              refine wpAnyH_takeL (i := 12) (v := .slice av n5.length cv) #[true, true, true, true, true, true, true, true, true, true, true, true, true] rfl (by kernel_rfl) (by kernel_rfl) (by kernel_rfl) (fun _ _ _ h => h) (by kernel_rfl) (HSm.out _ HSA.out) (Or.inl ⟨by rfl, fun W hW => ?_⟩) ?_
              · go_simp
              conv =>
                arg 8
                simp [Act.put]
              refine wpAnyH_done (by kernel_rfl) ?_ _
              clear HQ0 HQ1 HE0 HS HSm
              have HINA := Lib.hid (INV.out.stay0 HSA.out)
              have hgp : ¬ (wr.heap.size = p ∨ wr.heap.size = q) := by have h1 := RdAt.lt INV.out.r; have h2 := lt_of_block INV.out.b; have h3 := HGL.out; omega
              obtain ⟨S, hSd⟩ : ∃ S : World → Prop, S = Stay (fun k => k = p ∨ k = q) wA := ⟨_, rfl⟩
              have HS := Lib.hid (show ∀ W, S W → Stay (fun k => k = p ∨ k = q) wA W by intro W h; rw [hSd] at h; exact h)
              have HSm := Lib.hid (show ∀ W, Stay (fun k => k = p ∨ k = q) wA W → S W by intro W h; rw [hSd]; exact h)
              clear hSd
              have HG0 := Lib.hid (fun W (h : S W) => (two_cells (((HS.out W h).block _ (lt_of_block HBX.out) hgp).trans HBX.out)).1)
              have HG1 := Lib.hid (fun W (h : S W) => (two_cells (((HS.out W h).block _ (lt_of_block HBX.out) hgp).trans HBX.out)).2.1)
              have HE1 := Lib.hid (show ∀ W, S W → W.cell? ⟨lb, lo + i * 2 + 1, none⟩ = some (.int .i64 mo) from fun W h => (HS.out W h).cell (HINA.out.st.cell HC1.out (fun y => y)) (fun y => by have h1 := HINA.out.r.own.1; have h2 := HINA.out.qge; rcases y with y | y <;> (have y' : lb = _ := y; omega)))
              have HRA := Lib.hid (HINA.out.r.stay0 Stay.drew)
              have HVW := Lib.hid (fun W (h : S W) => slc_stayE HVA.out (HS.out W h) (fun h0 k e (y : k = p ∨ k = q) => by have h1 := HINA.out.r.own.1; have h2 := HINA.out.qge; have h3 := INV.out.xb (by have := HNL.out; omega) k (HV5.out.2 k e); rcases y with y | y <;> omega))
              clear hgp
              go_wp2
              refine wp_region_held (S := S) (by kernel_rfl) ?_
              change wpAnyH _ _ _ _ _ _ _ _ (World.drew _)
              refine wpAnyH_takeL (i := 0) (v := .agg #[.slice a5 s5.b.length c5, .int .i64 (s5.err : Int)]) #[true, false, false, false, false, false, false, false, false, false, false, false, false, false] rfl (by kernel_rfl) (by kernel_rfl) (by kernel_rfl) (fun _ _ _ h => h) (by kernel_rfl) (HSm.out _ Stay.drew) (Or.inl ⟨by rfl, fun W hW => ?_⟩) ?_
              · have k0 := HG0.out W hW
                have k1 := HG1.out W hW
                go_simp
              conv =>
                arg 8
                simp [Act.put]
              refine wpAnyH_takeL (i := 1) (v := .pointer (some ⟨p, 0, none⟩)) #[true, true, false, false, false, false, false, false, false, false, false, false, false, false] rfl (by kernel_rfl) (by kernel_rfl) (by kernel_rfl) (fun _ _ _ h => h) (by kernel_rfl) (HSm.out _ Stay.drew) (Or.inl ⟨by rfl, fun W hW => ?_⟩) ?_
              · go_simp
              conv =>
                arg 8
                simp [Act.put]
              refine wpAnyH_takeL (i := 2) (v := .slice (some ⟨lb, lo, none⟩) L.length c1) #[true, true, true, false, false, false, false, false, false, false, false, false, false, false] rfl (by kernel_rfl) (by kernel_rfl) (by kernel_rfl) (fun _ _ _ h => h) (by kernel_rfl) (HSm.out _ Stay.drew) (Or.inl ⟨by rfl, fun W hW => ?_⟩) ?_
              · go_simp
              conv =>
                arg 8
                simp [Act.put]
              refine wpAnyH_takeL (i := 3) (v := .int .i64 (i : Int)) #[true, true, true, true, false, false, false, false, false, false, false, false, false, false] rfl (by kernel_rfl) (by kernel_rfl) (by kernel_rfl) (fun _ _ _ h => h) (by kernel_rfl) (HSm.out _ Stay.drew) (Or.inl ⟨by rfl, fun W hW => ?_⟩) ?_
              · go_simp
              conv =>
                arg 8
                simp [Act.put]
              refine wpAnyH_takeL (i := 9) (v := .slice av n5.length cv) #[true, true, true, true, false, false, false, false, false, true, false, false, false, false] rfl (by kernel_rfl) (by kernel_rfl) (by kernel_rfl) (fun _ _ _ h => h) (by kernel_rfl) (HSm.out _ Stay.drew) (Or.inl ⟨by rfl, fun W hW => ?_⟩) ?_
              · go_simp
              conv =>
                arg 8
                simp [Act.put]
              refine wpAnyH_takeL (i := 10) (v := .string ⟨n5.toArray⟩) #[true, true, true, true, false, false, false, false, false, true, true, false, false, false] rfl (by kernel_rfl) (by kernel_rfl) (by kernel_rfl) (fun _ _ _ h => h) (by kernel_rfl) (HSm.out _ Stay.drew) (Or.inl ⟨by rfl, fun W hW => ?_⟩) ?_
              · have kc := conv_slc (HVW.out W hW)
                unfold strV at kc
                go_simp
              conv =>
                arg 8
                simp [Act.put]
              refine wpAnyH_takeL (i := 4) (v := .pointer (some ⟨lb, lo + i * 2, none⟩)) #[true, true, true, true, true, false, false, false, false, true, true, false, false, false] rfl (by kernel_rfl) (by kernel_rfl) (by kernel_rfl) (fun _ _ _ h => h) (by kernel_rfl) (HSm.out _ Stay.drew) (Or.inl ⟨by rfl, fun W hW => ?_⟩) ?_
              · go_simp
              conv =>
                arg 8
                simp [Act.put]
              refine wpAnyH_takeL (i := 5) (v := .pointer (some ⟨lb, lo + i * 2 + 1, none⟩)) #[true, true, true, true, true, true, false, false, false, true, true, false, false, false] rfl (by kernel_rfl) (by kernel_rfl) (by kernel_rfl) (fun _ _ _ h => h) (by kernel_rfl) (HSm.out _ Stay.drew) (Or.inl ⟨by rfl, fun W hW => ?_⟩) ?_
              · go_simp
              conv =>
                arg 8
                simp [Act.put]
              refine wpAnyH_takeL (i := 6) (v := .int .i64 mo) #[true, true, true, true, true, true, true, false, false, true, true, false, false, false] rfl (by kernel_rfl) (by kernel_rfl) (by kernel_rfl) (fun _ _ _ h => h) (by kernel_rfl) (HSm.out _ Stay.drew) (Or.inl ⟨by rfl, fun W hW => ?_⟩) ?_
              · have k0 := HE1.out W hW
                go_simp
              conv =>
                arg 8
                simp [Act.put]
              refine wpAnyH_one #[true, true, true, true, true, true, true, true, false, true, true, false, false, false] (i := 7) rfl (by kernel_rfl) (by kernel_rfl) (fun K hK => ?_)
              go_simp
              go_wp2_with (
                go_at_call 17
                refine (rbytes_any (fun k => w.heap.size ≤ k ∧ k ≠ q) _ p s mo HRA.out INV.out.len hmo2).mono ?_
                rintro e w6 ⟨⟨v6, rfl, ho6⟩, hr6, hs6⟩
                rw [HT.out] at hr6 ho6
                obtain ⟨a6, c6, rfl⟩ := ho6.form
                have HO6 := Lib.hid ho6
                have HR6 := Lib.hid hr6
                have HS6 := Lib.hid hs6
                have HS6' := Lib.hid (show Stay (fun k => k = p ∨ k = q) wA w6 from Stay.drew.trans (hs6.mono (fun k y => .inl y)))
                clear hr6 hs6)
              skip
              skip
              refine hK _ _ ?_ ?_
              · exact HSm.out _ HS6'.out
              conv =>
                arg 8
                simp [Act.put]
              refine wpAnyH_two (i := 8) (j := 12) #[true, true, true, true, true, true, true, true, true, true, true, false, false, false] #[true, true, true, true, true, true, true, true, false, true, true, false, true, false] rfl rfl (by kernel_rfl) (by kernel_rfl) (by kernel_rfl) (fun K hK => ?_) (fun K hK => ?_)
              · have kc6 := conv_slc HO6.out.slc
                unfold strV at kc6
                go_simp
                refine hK _ _ ?_ ?_
                · exact HSm.out _ HS6'.out
                conv =>
                  arg 8
                  simp [Act.put]
                clear kc6
                refine wpAnyH_takeL (i := 11) (v := .bool true) #[true, true, true, true, true, true, true, true, true, true, true, true, false, false] rfl (by kernel_rfl) (by kernel_rfl) (by kernel_rfl) (fun _ _ _ h => h) (by kernel_rfl) (HSm.out _ HS6'.out) (Or.inl ⟨by rfl, fun W hW => ?_⟩) ?_
                · go_simp
                conv =>
                  arg 8
                  simp [Act.put]
                refine wpAnyH_one #[true, true, true, true, true, true, true, true, true, true, true, true, true, false] (i := 12) rfl (by kernel_rfl) (by kernel_rfl) (fun K hK => ?_)
                refine step_store_mid rfl 27 (.tmp 6) (.tmp 161) rfl (q) 0 rfl 27 _ [.slice a5 s5.b.length c5, .int .i64 (s5.err : Int)] rfl (show w6.heap[q]? = some (.cells [.slice ax s.b.length cx, .int .i64 (s.err : Int)].toArray _ (0, 0)) from (HS6.out.block _ (lt_of_block HINA.out.b) (fun (y : q = p) => HINA.out.r.own.2 y.symm)).trans HINA.out.b) (by kernel_rfl) (Nat.le_refl _) (by intro v hv; simp at hv; rcases hv with rfl | rfl <;> rfl) ?_
                intro w7 hb7 hs7
                have HB7 := Lib.hid hb7
                have HS7 := Lib.hid hs7
                have HS7' := Lib.hid (show Stay (fun k => k = p ∨ k = q) wA w7 from HS6'.out.trans (hs7.mono (fun k y => .inr y)))
                clear hb7 hs7
                refine hK _ _ ?_ ?_
                · exact HSm.out _ HS7'.out
                conv =>
                  arg 8
                  simp [Act.put]
                refine wpAnyH_takeL (i := 13) (v := .bool true) #[true, true, true, true, true, true, true, true, true, true, true, true, true, true] rfl (by kernel_rfl) (by kernel_rfl) (by kernel_rfl) (fun _ _ _ h => h) (by kernel_rfl) (HSm.out _ HS7'.out) (Or.inl ⟨by rfl, fun W hW => ?_⟩) ?_
                · go_simp
                conv =>
                  arg 8
                  simp [Act.put]
                refine wpAnyH_done (by kernel_rfl) ?_ _
                have INV7 := Lib.hid (AskInv.next INV.out (HSA.out.trans Stay.drew) (HSUB.out.stay0 Stay.drew) HLE.out HR6.out HS6.out HB7.out HS7.out)
                go_wp2
                obtain ⟨D, hDd⟩ : ∃ D : World → Prop, D = fun W => AskInv w W p q s5 (.slice a5 s5.b.length c5) := ⟨_, rfl⟩
                have HD := Lib.hid (show ∀ W, D W → AskInv w W p q s5 (.slice a5 s5.b.length c5) by intro W h; rw [hDd] at h; exact h)
                have HDm := Lib.hid (show ∀ W, AskInv w W p q s5 (.slice a5 s5.b.length c5) → D W by intro W h; rw [hDd]; exact h)
                clear hDd
                have HN := Lib.hid (HDm.out w7.drew (INV7.out.stay0 Stay.drew))
                have k1 := fun j : InC D => (two_cells (HD.out _ j.h).b).1
                have k2 := fun j : InC D => (two_cells (HD.out _ j.h).b).2.1
                have H1 := Lib.hid (show ∀ W, D W → Calls Tryd.prog 21 #[.pointer (some ⟨p, 0, none⟩)] W fun e w' => e = .returned (errV (doneB s5)) ∧ D w' from fun W h => (rdone_any _ _ p s5 (HD.out W h).r).mono fun e w' ⟨h1, h2⟩ => ⟨h1, h2 ▸ h⟩)
                have H2 := Lib.hid (show ∀ W, D W → Calls Tryd.prog 23 #[.pointer (some ⟨p, 0, none⟩)] W fun e w' => e = .returned (errV s5.err) ∧ D w' from fun W h => (err_any _ _ p s5 (HD.out W h).r).mono fun e w' ⟨h1, h2⟩ => ⟨h1, h2 ▸ h⟩)
                have H3 := Lib.hid (show ∀ c : Nat, ∀ W, D W → Calls Tryd.prog 20 #[errV c] W fun e w' => e = .returned (.int .i64 (c : Int)) ∧ D w' from fun c W h => (num_err c _ (ErrCell.stay0 HG.out (HD.out W h).st)).mono fun e w' ⟨h1, h2⟩ => ⟨h1, HDm.out _ ((HD.out W h).stay0 h2)⟩)
                have H4 := Lib.hid (show ∀ W, D W → Calls Tryd.prog 22 #[.agg #[.slice a5 s5.b.length c5, .int .i64 (s5.err : Int)]] W fun e w' => e = .returned (.int .i64 (doneB s5 : Nat)) ∧ D w' from fun W h => (rdone_agg s5 _ _ (HD.out W h).l).mono fun e w' ⟨h1, h2⟩ => ⟨h1, HDm.out _ ((HD.out W h).stay0 h2)⟩)
                have H5 := Lib.hid (show ∀ W, D W → Calls Tryd.prog 24 #[.pointer (some ⟨p, 0, none⟩)] W fun e w' => e = .returned (.int .i64 (s5.b.length : Int)) ∧ D w' from fun W h => (left_any _ _ p s5 (HD.out W h).r).mono fun e w' ⟨h1, h2⟩ => ⟨h1, h2 ▸ h⟩)
                haveI : Nonempty (InC D) := ⟨⟨_, HN.out⟩⟩
                refine wp_region_class D HN.out (by kernel_rfl) (by kernel_rfl) ?_
                repeat (go_big_quiet_step ((first
                  | with_reducible exact calls_class H1.out
                  | with_reducible exact calls_class H2.out
                  | with_reducible exact calls_class (H3.out _)
                  | with_reducible exact calls_class H4.out
                  | with_reducible exact calls_class H5.out)))
                refine wpQuiet_nil ?_
                rintro W ⟨j, rfl⟩
                have hend := HD.out _ j.h
                clear k1 k2
                generalize j.w = w9 at *
                have HEND := Lib.hid hend
                clear hend
                go_wp2
                go_roundw
                case rel => exact ⟨i + 1, s5, _, by omega, by omega, by go_num, HEND.out⟩
                case measure => simp [intOf]; omega
              · refine step_store_mid rfl 27 (.tmp 6) (.tmp 161) rfl (q) 0 rfl 27 _ [.slice a5 s5.b.length c5, .int .i64 (s5.err : Int)] rfl (show w6.heap[q]? = some (.cells [.slice ax s.b.length cx, .int .i64 (s.err : Int)].toArray _ (0, 0)) from (HS6.out.block _ (lt_of_block HINA.out.b) (fun (y : q = p) => HINA.out.r.own.2 y.symm)).trans HINA.out.b) (by kernel_rfl) (Nat.le_refl _) (by intro v hv; simp at hv; rcases hv with rfl | rfl <;> rfl) ?_
                intro w7 hb7 hs7
                have HB7 := Lib.hid hb7
                have HS7 := Lib.hid hs7
                have HS7' := Lib.hid (show Stay (fun k => k = p ∨ k = q) wA w7 from HS6'.out.trans (hs7.mono (fun k y => .inr y)))
                clear hb7 hs7
                refine hK _ _ ?_ ?_
                · exact HSm.out _ HS7'.out
                conv =>
                  arg 8
                  simp [Act.put]
                refine wpAnyH_one #[true, true, true, true, true, true, true, true, true, true, true, false, true, false] (i := 8) rfl (by kernel_rfl) (by kernel_rfl) (fun K hK => ?_)
                have kc6 := conv_slc (slc_stayE HO6.out.slc HS7.out (fun h0 k e (y : k = q) => by have h1 := (HO6.out.lt k e).1; have h2 := lt_of_block HINA.out.b; have h3 : wA.drew.heap.size = wA.heap.size := rfl; omega))
                unfold strV at kc6
                go_simp
                refine hK _ _ ?_ ?_
                · exact HSm.out _ HS7'.out
                conv =>
                  arg 8
                  simp [Act.put]
                clear kc6
                refine wpAnyH_takeL (i := 11) (v := .bool true) #[true, true, true, true, true, true, true, true, true, true, true, true, true, false] rfl (by kernel_rfl) (by kernel_rfl) (by kernel_rfl) (fun _ _ _ h => h) (by kernel_rfl) (HSm.out _ HS7'.out) (Or.inl ⟨by rfl, fun W hW => ?_⟩) ?_
                · go_simp
                conv =>
                  arg 8
                  simp [Act.put]
                refine wpAnyH_takeL (i := 13) (v := .bool true) #[true, true, true, true, true, true, true, true, true, true, true, true, true, true] rfl (by kernel_rfl) (by kernel_rfl) (by kernel_rfl) (fun _ _ _ h => h) (by kernel_rfl) (HSm.out _ HS7'.out) (Or.inl ⟨by rfl, fun W hW => ?_⟩) ?_
                · go_simp
                conv =>
                  arg 8
                  simp [Act.put]
                refine wpAnyH_done (by kernel_rfl) ?_ _
                have INV7 := Lib.hid (AskInv.next INV.out (HSA.out.trans Stay.drew) (HSUB.out.stay0 Stay.drew) HLE.out HR6.out HS6.out HB7.out HS7.out)
                go_wp2
                obtain ⟨D, hDd⟩ : ∃ D : World → Prop, D = fun W => AskInv w W p q s5 (.slice a5 s5.b.length c5) := ⟨_, rfl⟩
                have HD := Lib.hid (show ∀ W, D W → AskInv w W p q s5 (.slice a5 s5.b.length c5) by intro W h; rw [hDd] at h; exact h)
                have HDm := Lib.hid (show ∀ W, AskInv w W p q s5 (.slice a5 s5.b.length c5) → D W by intro W h; rw [hDd]; exact h)
                clear hDd
                have HN := Lib.hid (HDm.out w7.drew (INV7.out.stay0 Stay.drew))
                have k1 := fun j : InC D => (two_cells (HD.out _ j.h).b).1
                have k2 := fun j : InC D => (two_cells (HD.out _ j.h).b).2.1
                have H1 := Lib.hid (show ∀ W, D W → Calls Tryd.prog 21 #[.pointer (some ⟨p, 0, none⟩)] W fun e w' => e = .returned (errV (doneB s5)) ∧ D w' from fun W h => (rdone_any _ _ p s5 (HD.out W h).r).mono fun e w' ⟨h1, h2⟩ => ⟨h1, h2 ▸ h⟩)
                have H2 := Lib.hid (show ∀ W, D W → Calls Tryd.prog 23 #[.pointer (some ⟨p, 0, none⟩)] W fun e w' => e = .returned (errV s5.err) ∧ D w' from fun W h => (err_any _ _ p s5 (HD.out W h).r).mono fun e w' ⟨h1, h2⟩ => ⟨h1, h2 ▸ h⟩)
                have H3 := Lib.hid (show ∀ c : Nat, ∀ W, D W → Calls Tryd.prog 20 #[errV c] W fun e w' => e = .returned (.int .i64 (c : Int)) ∧ D w' from fun c W h => (num_err c _ (ErrCell.stay0 HG.out (HD.out W h).st)).mono fun e w' ⟨h1, h2⟩ => ⟨h1, HDm.out _ ((HD.out W h).stay0 h2)⟩)
                have H4 := Lib.hid (show ∀ W, D W → Calls Tryd.prog 22 #[.agg #[.slice a5 s5.b.length c5, .int .i64 (s5.err : Int)]] W fun e w' => e = .returned (.int .i64 (doneB s5 : Nat)) ∧ D w' from fun W h => (rdone_agg s5 _ _ (HD.out W h).l).mono fun e w' ⟨h1, h2⟩ => ⟨h1, HDm.out _ ((HD.out W h).stay0 h2)⟩)
                have H5 := Lib.hid (show ∀ W, D W → Calls Tryd.prog 24 #[.pointer (some ⟨p, 0, none⟩)] W fun e w' => e = .returned (.int .i64 (s5.b.length : Int)) ∧ D w' from fun W h => (left_any _ _ p s5 (HD.out W h).r).mono fun e w' ⟨h1, h2⟩ => ⟨h1, h2 ▸ h⟩)
                haveI : Nonempty (InC D) := ⟨⟨_, HN.out⟩⟩
                refine wp_region_class D HN.out (by kernel_rfl) (by kernel_rfl) ?_
                repeat (go_big_quiet_step ((first
                  | with_reducible exact calls_class H1.out
                  | with_reducible exact calls_class H2.out
                  | with_reducible exact calls_class (H3.out _)
                  | with_reducible exact calls_class H4.out
                  | with_reducible exact calls_class H5.out)))
                refine wpQuiet_nil ?_
                rintro W ⟨j, rfl⟩
                have hend := HD.out _ j.h
                clear k1 k2
                generalize j.w = w9 at *
                have HEND := Lib.hid hend
                clear hend
                go_wp2
                go_roundw
                case rel => exact ⟨i + 1, s5, _, by omega, by omega, by go_num, HEND.out⟩
                case measure => simp [intOf]; omega
      · as_aux_lemma =>
          obtain ⟨⟨n5, s5⟩, ht⟩ : ∃ t, takeB sumB z32 s = t := ⟨_, rfl⟩
          have HT := Lib.hid ht
          have HLE := Lib.hid (show s5.b.length ≤ s.b.length by have := takeB_len (rule := sumB) (zero := z32) (s := s) (fun _ _ h => sumB_len2 h); rw [ht] at this; exact this)
          have HNL := Lib.hid (show n5.length = 32 by have := takeB_sum_len s; rw [ht] at this; exact this)
          clear ht
          go_wp2_with fail
          refine (rrprint_any s.b s.err _ _ INV.out.l).mono ?_
          rintro e w5 ⟨hret, hs5⟩
          rw [show (⟨s.b, s.err⟩ : RS) = s from rfl, HT.out] at hret
          obtain ⟨x5, rfl, hsub5⟩ := hret
          obtain ⟨a5, c5, rfl, _⟩ := id hsub5.1
          unfold rdV
          have HP0 := Lib.hid (PrtAt.new (w5.alloc (.cells #[.slice a5 s5.b.length c5, .int .i64 (s5.err : Int)] 27)) z32)
          have hsz : (w5.alloc (.cells #[.slice a5 s5.b.length c5, .int .i64 (s5.err : Int)] 27)).heap.size = w5.heap.size + 1 := by simp
          rw [hsz] at HP0
          have HB0 := Lib.hid ((Below.heap_alloc _ (.cells (cellsB z32).toArray 48) _ (lt_of_block (heap_alloc_new w5 (.cells #[.slice a5 s5.b.length c5, .int .i64 (s5.err : Int)] 27)))).trans (heap_alloc_new w5 (.cells #[.slice a5 s5.b.length c5, .int .i64 (s5.err : Int)] 27)))
          have HSX := Lib.hid (show Stay (fun _ => False) wr ((w5.alloc (.cells #[.slice a5 s5.b.length c5, .int .i64 (s5.err : Int)] 27)).alloc (.cells (cellsB z32).toArray 48)) from (hs5.trans (Stay.alloc _ _)).trans (Stay.alloc _ _))
          have HSU0 := Lib.hid ((hsub5.stay0 (Stay.alloc w5 (.cells #[.slice a5 s5.b.length c5, .int .i64 (s5.err : Int)] 27))).stay0 (Stay.alloc _ (.cells (cellsB z32).toArray 48)))
          have HGL := Lib.hid hs5.size
          clear hs5 hsub5 hsz
          go_wp2_with (first
            | (with_reducible refine alloc_prt rfl rfl ?_)
            | (refine store_prt rfl (.tmp 22) (.tmp 50) rfl (w5.heap.size + 1) rfl z32 n5 rfl len_z32 HNL.out HP0.out ?_
               intro wA hpA hsA
               have HPA := Lib.hid hpA
               have HBX := Lib.hid (show wA.heap[w5.heap.size]? = some (.cells #[.slice a5 s5.b.length c5, .int .i64 (s5.err : Int)] 27 (0, 0)) from (hsA.block _ (lt_of_block HB0.out) (fun (y : _ = _) => by omega)).trans HB0.out)
               have HSA := Lib.hid (show Stay (fun _ => False) wr wA from stay_seal (X := fun k => wr.heap.size ≤ k) ((HSX.out.mono (fun _ y => y.elim)).trans (hsA.mono (fun k (y : k = _) => by have := HGL.out; omega))) (fun _ hk => hk))
               have HSUB := Lib.hid (show Sub wA (.slice ax s.b.length cx) (.slice a5 s5.b.length c5) s5.b from ⟨slc_stayE HSU0.out.1 hsA (fun h0 k e (y : k = _) => by have h1 := INV.out.xb (by have := HLE.out; omega) k (HSU0.out.2 k e); have h2 := INV.out.st.size; have h3 := HGL.out; omega), HSU0.out.2⟩)
               clear hpA hsA))
          have HINA := Lib.hid (INV.out.stay0 HSA.out)
          have hgp : ¬ (w5.heap.size = p ∨ w5.heap.size = q) := by have h1 := RdAt.lt INV.out.r; have h2 := lt_of_block INV.out.b; have h3 := HGL.out; omega
          obtain ⟨S, hSd⟩ : ∃ S : World → Prop, S = Stay (fun k => k = p ∨ k = q) wA := ⟨_, rfl⟩
          have HS := Lib.hid (show ∀ W, S W → Stay (fun k => k = p ∨ k = q) wA W by intro W h; rw [hSd] at h; exact h)
          have HSm := Lib.hid (show ∀ W, Stay (fun k => k = p ∨ k = q) wA W → S W by intro W h; rw [hSd]; exact h)
          clear hSd
          have HG0 := Lib.hid (fun W (h : S W) => (two_cells (((HS.out W h).block _ (lt_of_block HBX.out) hgp).trans HBX.out)).1)
          have HG1 := Lib.hid (fun W (h : S W) => (two_cells (((HS.out W h).block _ (lt_of_block HBX.out) hgp).trans HBX.out)).2.1)
          have HE1 := Lib.hid (show ∀ W, S W → W.cell? ⟨lb, lo + i * 2 + 1, none⟩ = some (.int .i64 mo) from fun W h => (HS.out W h).cell (HINA.out.st.cell HC1.out (fun y => y)) (fun y => by have h1 := HINA.out.r.own.1; have h2 := HINA.out.qge; rcases y with y | y <;> (have y' : lb = _ := y; omega)))
          have HRA := Lib.hid (HINA.out.r.stay0 Stay.drew)
          have HPW := Lib.hid (fun W (h : S W) => results_prt HNL.out (show PrtAt W (w5.heap.size + 1) n5 from (HPA.out.stay (HS.out W h) (fun y => by have h1 := RdAt.lt INV.out.r; have h2 := lt_of_block INV.out.b; have h3 := HGL.out; rcases y with y | y <;> omega))))
          clear hgp
          go_wp2
          refine wp_region_held (S := S) (by kernel_rfl) ?_
          change wpAnyH _ _ _ _ _ _ _ _ (World.drew _)
          refine wpAnyH_takeL (i := 0) (v := .agg #[.slice a5 s5.b.length c5, .int .i64 (s5.err : Int)]) #[true, false, false, false, false, false, false] rfl (by kernel_rfl) (by kernel_rfl) (by kernel_rfl) (fun _ _ _ h => h) (by kernel_rfl) (HSm.out _ Stay.drew) (Or.inl ⟨by rfl, fun W hW => ?_⟩) ?_
          · have k0 := HG0.out W hW
            have k1 := HG1.out W hW
            go_simp
          conv =>
            arg 8
            simp [Act.put]
          refine wpAnyH_takeL (i := 1) (v := .pointer (some ⟨p, 0, none⟩)) #[true, true, false, false, false, false, false] rfl (by kernel_rfl) (by kernel_rfl) (by kernel_rfl) (fun _ _ _ h => h) (by kernel_rfl) (HSm.out _ Stay.drew) (Or.inl ⟨by rfl, fun W hW => ?_⟩) ?_
          · go_simp
          conv =>
            arg 8
            simp [Act.put]
          refine wpAnyH_takeL (i := 3) (v := .agg (cellsB n5).toArray) #[true, true, false, true, false, false, false] rfl (by kernel_rfl) (by kernel_rfl) (by kernel_rfl) (fun _ _ _ h => h) (by kernel_rfl) (HSm.out _ Stay.drew) (Or.inl ⟨by rfl, fun W hW => ?_⟩) ?_
          · exact exec_load rfl rfl (HPW.out W hW)
          conv =>
            arg 8
            simp [Act.put]
          refine wpAnyH_one #[true, true, true, true, false, false, false] (i := 2) rfl (by kernel_rfl) (by kernel_rfl) (fun K hK => ?_)
          go_simp
          go_wp2_with (
            go_at_call 19
            refine (rprint_any (fun k => w.heap.size ≤ k ∧ k ≠ q) _ p s HRA.out).mono ?_
            rintro e w6 ⟨rfl, hr6, hs6⟩
            rw [HT.out] at hr6
            skip
            skip
            have HR6 := Lib.hid hr6
            have HS6 := Lib.hid hs6
            have HS6' := Lib.hid (show Stay (fun k => k = p ∨ k = q) wA w6 from Stay.drew.trans (hs6.mono (fun k y => .inl y)))
            clear hr6 hs6)
          rw [HT.out]
          unfold prtV
          refine hK _ _ ?_ ?_
          · exact HSm.out _ HS6'.out
          conv =>
            arg 8
            simp [Act.put]
          refine wpAnyH_takeL (i := 4) (v := .bool true) #[true, true, true, true, true, false, false] rfl (by kernel_rfl) (by kernel_rfl) (by kernel_rfl) (fun _ _ _ h => h) (by kernel_rfl) (HSm.out _ HS6'.out) (Or.inl ⟨by rfl, fun W hW => ?_⟩) ?_
          · have heq := eq_prt W n5 HNL.out
            go_simp
          conv =>
            arg 8
            simp [Act.put]
          refine wpAnyH_one #[true, true, true, true, true, true, false] (i := 5) rfl (by kernel_rfl) (by kernel_rfl) (fun K hK => ?_)
          refine step_store_mid rfl 27 (.tmp 6) (.tmp 51) rfl (q) 0 rfl 27 _ [.slice a5 s5.b.length c5, .int .i64 (s5.err : Int)] rfl (show w6.heap[q]? = some (.cells [.slice ax s.b.length cx, .int .i64 (s.err : Int)].toArray _ (0, 0)) from (HS6.out.block _ (lt_of_block HINA.out.b) (fun (y : q = p) => HINA.out.r.own.2 y.symm)).trans HINA.out.b) (by kernel_rfl) (Nat.le_refl _) (by intro v hv; simp at hv; rcases hv with rfl | rfl <;> rfl) ?_
          intro w7 hb7 hs7
          have HB7 := Lib.hid hb7
          have HS7 := Lib.hid hs7
          have HS7' := Lib.hid (show Stay (fun k => k = p ∨ k = q) wA w7 from HS6'.out.trans (hs7.mono (fun k y => .inr y)))
          clear hb7 hs7
          refine hK _ _ ?_ ?_
          · exact HSm.out _ HS7'.out
          conv =>
            arg 8
            simp [Act.put]
          refine wpAnyH_takeL (i := 6) (v := .bool true) #[true, true, true, true, true, true, true] rfl (by kernel_rfl) (by kernel_rfl) (by kernel_rfl) (fun _ _ _ h => h) (by kernel_rfl) (HSm.out _ HS7'.out) (Or.inl ⟨by rfl, fun W hW => ?_⟩) ?_
          · go_simp
          conv =>
            arg 8
            simp [Act.put]
          refine wpAnyH_done (by kernel_rfl) ?_ _
          have INV7 := Lib.hid (AskInv.next INV.out (HSA.out.trans Stay.drew) (HSUB.out.stay0 Stay.drew) HLE.out HR6.out HS6.out HB7.out HS7.out)
          go_wp2
          obtain ⟨D, hDd⟩ : ∃ D : World → Prop, D = fun W => AskInv w W p q s5 (.slice a5 s5.b.length c5) := ⟨_, rfl⟩
          have HD := Lib.hid (show ∀ W, D W → AskInv w W p q s5 (.slice a5 s5.b.length c5) by intro W h; rw [hDd] at h; exact h)
          have HDm := Lib.hid (show ∀ W, AskInv w W p q s5 (.slice a5 s5.b.length c5) → D W by intro W h; rw [hDd]; exact h)
          clear hDd
          have HN := Lib.hid (HDm.out w7.drew (INV7.out.stay0 Stay.drew))
          have k1 := fun j : InC D => (two_cells (HD.out _ j.h).b).1
          have k2 := fun j : InC D => (two_cells (HD.out _ j.h).b).2.1
          have H1 := Lib.hid (show ∀ W, D W → Calls Tryd.prog 21 #[.pointer (some ⟨p, 0, none⟩)] W fun e w' => e = .returned (errV (doneB s5)) ∧ D w' from fun W h => (rdone_any _ _ p s5 (HD.out W h).r).mono fun e w' ⟨h1, h2⟩ => ⟨h1, h2 ▸ h⟩)
          have H2 := Lib.hid (show ∀ W, D W → Calls Tryd.prog 23 #[.pointer (some ⟨p, 0, none⟩)] W fun e w' => e = .returned (errV s5.err) ∧ D w' from fun W h => (err_any _ _ p s5 (HD.out W h).r).mono fun e w' ⟨h1, h2⟩ => ⟨h1, h2 ▸ h⟩)
          have H3 := Lib.hid (show ∀ c : Nat, ∀ W, D W → Calls Tryd.prog 20 #[errV c] W fun e w' => e = .returned (.int .i64 (c : Int)) ∧ D w' from fun c W h => (num_err c _ (ErrCell.stay0 HG.out (HD.out W h).st)).mono fun e w' ⟨h1, h2⟩ => ⟨h1, HDm.out _ ((HD.out W h).stay0 h2)⟩)
          have H4 := Lib.hid (show ∀ W, D W → Calls Tryd.prog 22 #[.agg #[.slice a5 s5.b.length c5, .int .i64 (s5.err : Int)]] W fun e w' => e = .returned (.int .i64 (doneB s5 : Nat)) ∧ D w' from fun W h => (rdone_agg s5 _ _ (HD.out W h).l).mono fun e w' ⟨h1, h2⟩ => ⟨h1, HDm.out _ ((HD.out W h).stay0 h2)⟩)
          have H5 := Lib.hid (show ∀ W, D W → Calls Tryd.prog 24 #[.pointer (some ⟨p, 0, none⟩)] W fun e w' => e = .returned (.int .i64 (s5.b.length : Int)) ∧ D w' from fun W h => (left_any _ _ p s5 (HD.out W h).r).mono fun e w' ⟨h1, h2⟩ => ⟨h1, h2 ▸ h⟩)
          haveI : Nonempty (InC D) := ⟨⟨_, HN.out⟩⟩
          refine wp_region_class D HN.out (by kernel_rfl) (by kernel_rfl) ?_
          repeat (go_big_quiet_step ((first
            | with_reducible exact calls_class H1.out
            | with_reducible exact calls_class H2.out
            | with_reducible exact calls_class (H3.out _)
            | with_reducible exact calls_class H4.out
            | with_reducible exact calls_class H5.out)))
          refine wpQuiet_nil ?_
          rintro W ⟨j, rfl⟩
          have hend := HD.out _ j.h
          clear k1 k2
          generalize j.w = w9 at *
          have HEND := Lib.hid hend
          clear hend
          go_wp2
          go_roundw
          case rel => exact ⟨i + 1, s5, _, by omega, by omega, by go_num, HEND.out⟩
          case measure => simp [intOf]; omega
    · as_aux_lemma =>
        have hend : ¬ ((i : Int) < (L.length : Int)) ∨ ((i : Int) < (L.length : Int) ∧ ¬ ((i : Int) < 100)) := by
          by_cases h : i < L.length
          · exact .inr ⟨by omega, by omega⟩
          · exact .inl (by omega)
        have HG0 := Lib.hid (ErrCell.stay0 HG.out INV.out.st)
        have HST := Lib.hid INV.out.st
        rcases hend with hend | ⟨hend1, hend2⟩
        all_goals
          go_wp2_with fail
          refine (rdone_none _).mono ?_
          rintro e w' ⟨rfl, rfl⟩
          go_wp2_with fail
          refine (num_err 1 wr HG0.out).mono ?_
          rintro e w3 ⟨rfl, hs3⟩
          have HS3 := Lib.hid (HST.out.trans hs3)
          have HG3 := Lib.hid (ErrCell.stay0 HG0.out hs3)
          clear hs3
          go_wp2_with fail
          refine (err_none _).mono ?_
          rintro e w' ⟨rfl, rfl⟩
          go_wp2_with fail
          refine (num_err 1 w3 HG3.out).mono ?_
          rintro e w4 ⟨rfl, hs4⟩
          have HS4 := Lib.hid (HS3.out.trans hs4)
          clear hs4
          go_wp2_with fail
          refine (ruint_none 9 w4).mono ?_
          rintro e w5 ⟨rfl, hs5⟩
          have HS5 := Lib.hid (HS4.out.trans hs5)
          clear hs5
          unfold u64V
          go_wp2_with fail
          refine (rint_none w5).mono ?_
          rintro e w6 ⟨rfl, hs6⟩
          have HS6 := Lib.hid (HS5.out.trans hs6)
          clear hs6
          unfold i64V
          go_wp2_with fail
          refine (rcount_none 9 w6).mono ?_
          rintro e w7 ⟨rfl, hs7⟩
          have HS7 := Lib.hid (HS6.out.trans hs7)
          clear hs7
          unfold i64V
          go_wp2_with fail
          refine (rbool_none w7).mono ?_
          rintro e w8 ⟨rfl, hs8⟩
          have HS8 := Lib.hid (HS7.out.trans hs8)
          clear hs8
          unfold boolV
          go_wp2_with fail
          refine (rtext_none 9 w8).mono ?_
          rintro e w9 ⟨rfl, hs9⟩
          have HS9 := Lib.hid (HS8.out.trans hs9)
          clear hs9
          unfold strV
          go_wp2_with fail
          refine (rbytes_none 9 w9).mono ?_
          rintro e w10 ⟨rfl, hs10⟩
          have HS10 := Lib.hid (HS9.out.trans hs10)
          clear hs10
          go_wp2_with fail
          refine (rprint_none w10).mono ?_
          rintro e w11 ⟨rfl, hs11⟩
          have HS11 := Lib.hid (HS10.out.trans hs11)
          clear hs11
          have heqz : ∀ W : World, (Op.equalIn 10000 48 (.agg #[.int .u8 0, .int .u8 0, .int .u8 0, .int .u8 0, .int .u8 0, .int .u8 0, .int .u8 0, .int .u8 0, .int .u8 0, .int .u8 0, .int .u8 0, .int .u8 0, .int .u8 0, .int .u8 0, .int .u8 0, .int .u8 0, .int .u8 0, .int .u8 0, .int .u8 0, .int .u8 0, .int .u8 0, .int .u8 0, .int .u8 0, .int .u8 0, .int .u8 0, .int .u8 0, .int .u8 0, .int .u8 0, .int .u8 0, .int .u8 0, .int .u8 0, .int .u8 0]) (.agg #[.int .u8 0, .int .u8 0, .int .u8 0, .int .u8 0, .int .u8 0, .int .u8 0, .int .u8 0, .int .u8 0, .int .u8 0, .int .u8 0, .int .u8 0, .int .u8 0, .int .u8 0, .int .u8 0, .int .u8 0, .int .u8 0, .int .u8 0, .int .u8 0, .int .u8 0, .int .u8 0, .int .u8 0, .int .u8 0, .int .u8 0, .int .u8 0, .int .u8 0, .int .u8 0, .int .u8 0, .int .u8 0, .int .u8 0, .int .u8 0, .int .u8 0, .int .u8 0])).run Tryd.prog W = .ok true W := fun W => eq_prt W z32 len_z32
          rw [show prtV z32 = .agg #[.int .u8 0, .int .u8 0, .int .u8 0, .int .u8 0, .int .u8 0, .int .u8 0, .int .u8 0, .int .u8 0, .int .u8 0, .int .u8 0, .int .u8 0, .int .u8 0, .int .u8 0, .int .u8 0, .int .u8 0, .int .u8 0, .int .u8 0, .int .u8 0, .int .u8 0, .int .u8 0, .int .u8 0, .int .u8 0, .int .u8 0, .int .u8 0, .int .u8 0, .int .u8 0, .int .u8 0, .int .u8 0, .int .u8 0, .int .u8 0, .int .u8 0, .int .u8 0] from rfl]
          go_wp2_with fail
          refine (left_none w11).mono ?_
          rintro e w' ⟨rfl, rfl⟩
          go_wp2_with fail
          refine (sure_any w11).mono ?_
          rintro e w20 ⟨rfl, hs20⟩
          have HS20 := Lib.hid (HS11.out.trans hs20)
          clear hs20
          go_wp2
          go_ret
          exact ⟨rfl, HS20.out⟩

end Go.Proofs.YtgfkeoicdjcfpaaDoor.Pk
