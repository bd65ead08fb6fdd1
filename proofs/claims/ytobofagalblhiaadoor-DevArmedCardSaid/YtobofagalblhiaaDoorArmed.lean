/-
  DevArmed's walk.
-/
import Derived.Test.YtobofagalblhiaaDoorArmedFacts
import Derived.Test.YtobofagalblhiaaDoorLaw
import Derived.Test.YtobofagalblhiaaDoorClass
import Derived.WalkSpells
import Derived.WalkLawsBesides
namespace Go.Proofs.YtobofagalblhiaaDoor
open Go.RowKit Go.Maps
set_option maxRecDepth 100000

theorem ErrCell.stay0' {w w' : World} (h : ErrCell w) (hs : Stay (fun _ => False) w w') : ErrCell w' := hs.cell h (fun x => x)

set_option maxHeartbeats 4000000 in
theorem armed_walk (n : Int) (bp : Option Addr) (bc : Nat) (lb : List UInt8) (w : World) (hg : ErrCell w) (hn : lb.length ≤ 64) (rb : ReadsAs w bp lb) (ob : 0 < lb.length → ∀ ad, bp = some ad → ad.block < w.heap.size) :
    Calls Tryd.prog 3 #[.int .i64 n, .slice bp lb.length bc] w fun e w' => e = .returned (.bool true) ∧ Stay (fun _ => False) w w' := by
  obtain ⟨k, hk12, hk⟩ := mod12 n
  have hmk := make64
  have HG := Lib.hid hg
  have RB := Lib.hid rb
  have OB := Lib.hid ob
  clear rb ob hg
  go_enter Tryd.func3, Tryd.ntmps3
  go_wp2_with fail
  refine (new_at 3 _ (by omega) (by omega)).mono ?_
  rintro e w1 ⟨pd, ps, pm, rfl, hd1, hF, hs1⟩
  have nob : 0 < lb.length → ∀ ad, bp = some ad → ¬ own pd ps pm ad.block := fun h0 ad e => hF.not_own (OB.out h0 ad e)
  have NB := Lib.hid nob
  clear nob
  go_wp2_with fail
  refine (arm_up w1 pd ps pm (fresh 3) k hd1 rfl rfl (by omega)).mono ?_
  rintro e w2 ⟨rfl, hd2, hs2⟩
  go_wp2_with fail
  go_loopw [8, 9] (fun c _ wr => ∃ (i : Nat) (d : DS), i ≤ 15 ∧ c = .int .i64 (i : Int) ∧ DevAt wr pd ps pm d ∧ ArmInv k i d ∧ Stay (own pd ps pm) w1 wr) (fun c _ _ => 15 - (intOf c).toNat)
  case atStart => exact ⟨0, _, by omega, rfl, hd2, ⟨rfl, rfl, rfl, by simp [fresh], by simp, rfl⟩, hs2⟩
  case round =>
    obtain ⟨i, d, hi0, rfl, hdr, hinv, hst⟩ := hrel
    by_cases hi : i < 15
    · have HST := Lib.hid hst
      have HI := Lib.hid hinv
      have HD := Lib.hid hdr
      clear hst hinv hdr
      by_cases hik : i < k
      · go_wp2_with fail
        rw [show (i : Int) % 3 = ((i % 3 : Nat) : Int) by omega]
        refine (write_some wr pd ps pm d (i % 3) bp bc lb HD.out (by rw [HI.out.cr]; exact decide_eq_false (by omega)) HI.out.lo HI.out.ar (by rw [HI.out.left, Nat.min_eq_left (by omega)]; omega) (by rw [HI.out.left]; omega) (by rw [HI.out.n]; omega) hn ((RB.out.stay hs1 (fun _ _ _ x => x)).stay HST.out NB.out) NB.out (by rw [HI.out.wr]; omega) (by rw [HI.out.wr]; omega)).mono ?_
        rintro e w5 ⟨rfl, hd5, hs5⟩
        have hi5 := HI.out.some hik (i % 3) lb
        have HS5 := Lib.hid (HST.out.trans hs5)
        clear hs5
        go_wp2_with fail
        refine (down_is w5 pd ps pm _ false hd5 (by rw [hi5.cr, hi5.lo]; simp; omega)).mono ?_
        rintro e w6 ⟨rfl, rfl⟩
        go_wp2_with fail
        refine (writes_is w5 pd ps pm _ ((i : Int) + 1) hd5 (by rw [hi5.wr, Nat.min_eq_left (by omega)]; omega)).mono ?_
        rintro e w6 ⟨rfl, rfl⟩
        have HD5 := Lib.hid hd5
        have HI5 := Lib.hid hi5
        clear hd5 hi5
        have hmin : min ((i : Int) + 1) (k : Int) = (i : Int) + 1 := by omega
        have hki : ¬ k ≤ i := by omega
        go_wp2
        go_roundw
        case rel => exact ⟨i + 1, _, by omega, by go_num, HD5.out, HI5.out, HS5.out⟩
        case measure => simp [intOf]; omega
      · have hki : k ≤ i := by omega
        have hmin : min ((i : Int) + 1) (k : Int) = (k : Int) := by omega
        have HMIN := Lib.hid hmin
        clear hmin
        have key : Calls Tryd.prog 7 #[.pointer (some ⟨pd, 0, none⟩), .int .i64 ((i % 3 : Nat) : Int), .slice bp lb.length bc] wr fun e w' => e = .returned (.iface 38 (.int .i64 13)) ∧ ∃ d', DevAt w' pd ps pm d' ∧ ArmInv k (i + 1) d' ∧ Stay (own pd ps pm) w1 w' := by
          by_cases he : i = k
          · subst he
            exact (write_last wr pd ps pm d (i % 3) bp lb.length bc HD.out (by rw [HI.out.cr]; exact decide_eq_false (by omega)) HI.out.lo HI.out.ar (by rw [HI.out.left, Nat.min_eq_left (by omega)]; omega) (by rw [HI.out.n]; omega) hn).mono fun e w' ⟨h1, h2, h3⟩ => ⟨h1, _, h2, HI.out.last, HST.out.trans h3⟩
          · exact (write_down wr pd ps pm d _ _ HD.out (by rw [HI.out.cr, decide_eq_true (by omega)]; rfl)).mono fun e w' ⟨h1, h2⟩ => ⟨h1, d, h2 ▸ HD.out, HI.out.down (by omega), h2 ▸ HST.out⟩
        have KEY := Lib.hid key
        clear key
        go_wp2_with fail
        rw [show (i : Int) % 3 = ((i % 3 : Nat) : Int) by omega]
        refine KEY.out.mono ?_
        rintro e w5 ⟨rfl, d5, hd5, hi5, hs5⟩
        have HS5 := Lib.hid hs5
        clear hs5
        go_wp2_with fail
        refine (down_is w5 pd ps pm _ true hd5 (by rw [hi5.cr, decide_eq_true (by omega)]; rfl)).mono ?_
        rintro e w6 ⟨rfl, rfl⟩
        go_wp2_with fail
        refine (writes_is w5 pd ps pm _ (k : Int) hd5 (by rw [hi5.wr, Nat.min_eq_right (by omega)])).mono ?_
        rintro e w6 ⟨rfl, rfl⟩
        have HD5 := Lib.hid hd5
        have HI5 := Lib.hid hi5
        have hmin := HMIN.out
        clear hd5 hi5
        go_wp2
        go_roundw
        case rel => exact ⟨i + 1, _, by omega, by go_num, HD5.out, HI5.out, HS5.out⟩
        case measure => simp [intOf]; omega
    · obtain rfl : i = 15 := by omega
      have hlo := hinv.lo
      have hNn := hinv.n
      have hwr : d.wr = (k : Int) := by rw [hinv.wr, Nat.min_eq_right (by omega)]
      have HST := Lib.hid hst
      have HLO := Lib.hid hlo
      have HNN := Lib.hid hNn
      have HWR := Lib.hid hwr
      clear hst hinv hlo hNn hwr
      go_wp2_with fail
      refine (start_nils wr pd ps pm d hdr HLO.out).mono ?_
      rintro e w5 ⟨rfl, hd5, hs5⟩
      have hs15 := HST.out.trans hs5
      clear hs5 hdr
      go_wp2_with fail
      refine (write_free w5 pd ps pm (d.started []) 0 bp bc lb hd5 rfl HLO.out rfl (by show 0 < d.n; rw [HNN.out]; decide) hn ((RB.out.stay hs1 (fun _ _ _ x => x)).stay hs15 NB.out) NB.out (by show 0 ≤ d.wr; rw [HWR.out]; omega) (by show d.wr < _; rw [HWR.out]; omega)).mono ?_
      rintro e w6 ⟨rfl, hd6, hs6⟩
      have hs16 := hs15.trans hs6
      clear hs15 hs6 hd5
      go_wp2_with fail
      refine (lose_any w6 pd ps pm _ hd6).mono ?_
      rintro e w7 ⟨rfl, hd7, hs7⟩
      have hs17 := hs16.trans hs7
      clear hs16 hs7 hd6
      go_wp2_with fail
      refine (write_down w7 pd ps pm _ 0 _ hd7 (by simp)).mono ?_
      rintro e w8 ⟨rfl, rfl⟩
      go_wp2_with fail
      refine (start_lost w7 pd ps pm _ _ hd7 rfl).mono ?_
      rintro e w8 ⟨rfl, rfl⟩
      go_wp2_with fail
      refine (read_down w7 pd ps pm _ 0 hd7 (by simp)).mono ?_
      rintro e w8 ⟨rfl, rfl⟩
      go_wp2_with fail
      refine (replace_lost w7 pd ps pm _ hd7 rfl).mono ?_
      rintro e w8 ⟨rfl, hd8, hs8⟩
      have hs18 := hs17.trans hs8
      clear hs17 hs8 hd7
      go_wp2_with fail
      refine (read_up w8 pd ps pm _ 0 hd8 rfl rfl (by show 0 < d.n; rw [HNN.out]; decide)).mono ?_
      rintro e w9 ⟨g, cap, rfl, hg9, hc9, hd9, hs9⟩
      have HC9 := Lib.hid (show Holds64 w9 g zsec from hc9)
      have HS9 := Lib.hid (hs1.andThen (hs18.trans (hs9.mono (fun _ x => x.elim))) (fun k hk e => hF.not_own hk e))
      have HD9 := Lib.hid hd9
      clear hs18 hs9 hd8 hd9 hc9
      go_wp2_with fail
      have HMK := Lib.hid hmk
      clear hmk
      refine wp_region_any (by kernel_rfl) ?_
      change wpAny _ _ _ _ _ _ _ (World.drew _)
      refine wpAny_takeL (i := 0) (v := ?_) #[true, false, false, false, false, false, false, false, false, false, false, false, false, false, false, false, false, false, false, false, false, false, false, false, false, false, false, false, false, false, false, false] rfl (by kernel_rfl) (by kernel_rfl) (by kernel_rfl) (fun _ _ _ h => h) (by kernel_rfl) (Or.inl ⟨by rfl, ?_⟩) ?_
      rotate_left
      · intro w
        go_simp
        with_reducible rfl
      go_frame
      refine wpAny_takeL (i := 1) (v := ?_) #[true, true, false, false, false, false, false, false, false, false, false, false, false, false, false, false, false, false, false, false, false, false, false, false, false, false, false, false, false, false, false, false] rfl (by kernel_rfl) (by kernel_rfl) (by kernel_rfl) (fun _ _ _ h => h) (by kernel_rfl) (Or.inl ⟨by rfl, ?_⟩) ?_
      rotate_left
      · intro w
        go_simp
        with_reducible rfl
      go_frame
      refine wpAny_takeL (i := 2) (v := ?_) #[true, true, true, false, false, false, false, false, false, false, false, false, false, false, false, false, false, false, false, false, false, false, false, false, false, false, false, false, false, false, false, false] rfl (by kernel_rfl) (by kernel_rfl) (by kernel_rfl) (fun _ _ _ h => h) (by kernel_rfl) (Or.inl ⟨by rfl, ?_⟩) ?_
      rotate_left
      · intro w
        go_simp
        with_reducible rfl
      go_frame
      refine wpAny_takeL (i := 3) (v := ?_) #[true, true, true, true, false, false, false, false, false, false, false, false, false, false, false, false, false, false, false, false, false, false, false, false, false, false, false, false, false, false, false, false] rfl (by kernel_rfl) (by kernel_rfl) (by kernel_rfl) (fun _ _ _ h => h) (by kernel_rfl) (Or.inl ⟨by rfl, ?_⟩) ?_
      rotate_left
      · intro w
        go_simp
        with_reducible rfl
      go_frame
      refine wpAny_ready (rs := [4]) (by kernel_rfl) (by simp) (AllReady.cons rfl (fun K hK => ?_) AllReady.nil)
      go_simp
      go_wp2_with (go_at_call 14; refine (num_errno 13 _ (HG.out.stay0' (HS9.out.trans Stay.drew))).mono ?_; rintro e w10 ⟨rfl, hs10⟩; have HS10 := Lib.hid ((HS9.out.trans Stay.drew).trans hs10); have HT10 := Lib.hid ((Stay.drew (X := fun _ => False) (w := w9)).trans hs10); clear hs10)
      refine wpAny_listed #[true, true, true, true, true, false, false, false, false, false, false, false, false, false, false, false, false, false, false, false, false, false, false, false, false, false, false, false, false, false, false, false] (by kernel_rfl) ?_
      refine wpAny_takeL (i := 5) (v := ?_) #[true, true, true, true, true, true, false, false, false, false, false, false, false, false, false, false, false, false, false, false, false, false, false, false, false, false, false, false, false, false, false, false] rfl (by kernel_rfl) (by kernel_rfl) (by kernel_rfl) (fun _ _ _ h => h) (by kernel_rfl) (Or.inl ⟨by rfl, ?_⟩) ?_
      rotate_left
      · intro w
        go_simp
        with_reducible rfl
      go_frame
      refine wpAny_takeL (i := 6) (v := ?_) #[true, true, true, true, true, true, true, false, false, false, false, false, false, false, false, false, false, false, false, false, false, false, false, false, false, false, false, false, false, false, false, false] rfl (by kernel_rfl) (by kernel_rfl) (by kernel_rfl) (fun _ _ _ h => h) (by kernel_rfl) (Or.inl ⟨by rfl, ?_⟩) ?_
      rotate_left
      · intro w
        go_simp
        with_reducible rfl
      go_frame
      refine wpAny_takeL (i := 7) (v := ?_) #[true, true, true, true, true, true, true, true, false, false, false, false, false, false, false, false, false, false, false, false, false, false, false, false, false, false, false, false, false, false, false, false] rfl (by kernel_rfl) (by kernel_rfl) (by kernel_rfl) (fun _ _ _ h => h) (by kernel_rfl) (Or.inl ⟨by rfl, ?_⟩) ?_
      rotate_left
      · intro w
        go_simp
        with_reducible rfl
      go_frame
      refine wpAny_takeL (i := 8) (v := ?_) #[true, true, true, true, true, true, true, true, true, false, false, false, false, false, false, false, false, false, false, false, false, false, false, false, false, false, false, false, false, false, false, false] rfl (by kernel_rfl) (by kernel_rfl) (by kernel_rfl) (fun _ _ _ h => h) (by kernel_rfl) (Or.inl ⟨by rfl, ?_⟩) ?_
      rotate_left
      · intro w
        go_simp
        with_reducible rfl
      go_frame
      refine wpAny_ready (rs := [9]) (by kernel_rfl) (by simp) (AllReady.cons rfl (fun K hK => ?_) AllReady.nil)
      go_simp
      go_wp2_with (go_at_call 14; refine (num_errno 13 _ (HG.out.stay0' HS10.out)).mono ?_; rintro e w11 ⟨rfl, hs11⟩; have HS11 := Lib.hid (HS10.out.trans hs11); have HT11 := Lib.hid (HT10.out.trans hs11); clear hs11)
      refine wpAny_listed #[true, true, true, true, true, true, true, true, true, true, false, false, false, false, false, false, false, false, false, false, false, false, false, false, false, false, false, false, false, false, false, false] (by kernel_rfl) ?_
      refine wpAny_takeL (i := 10) (v := ?_) #[true, true, true, true, true, true, true, true, true, true, true, false, false, false, false, false, false, false, false, false, false, false, false, false, false, false, false, false, false, false, false, false] rfl (by kernel_rfl) (by kernel_rfl) (by kernel_rfl) (fun _ _ _ h => h) (by kernel_rfl) (Or.inl ⟨by rfl, ?_⟩) ?_
      rotate_left
      · intro w
        go_simp
        with_reducible rfl
      go_frame
      refine wpAny_takeL (i := 11) (v := ?_) #[true, true, true, true, true, true, true, true, true, true, true, true, false, false, false, false, false, false, false, false, false, false, false, false, false, false, false, false, false, false, false, false] rfl (by kernel_rfl) (by kernel_rfl) (by kernel_rfl) (fun _ _ _ h => h) (by kernel_rfl) (Or.inl ⟨by rfl, ?_⟩) ?_
      rotate_left
      · intro w
        go_simp
        with_reducible rfl
      go_frame
      refine wpAny_takeL (i := 12) (v := ?_) #[true, true, true, true, true, true, true, true, true, true, true, true, true, false, false, false, false, false, false, false, false, false, false, false, false, false, false, false, false, false, false, false] rfl (by kernel_rfl) (by kernel_rfl) (by kernel_rfl) (fun _ _ _ h => h) (by kernel_rfl) (Or.inl ⟨by rfl, ?_⟩) ?_
      rotate_left
      · intro w
        go_simp
        with_reducible rfl
      go_frame
      refine wpAny_takeL (i := 13) (v := ?_) #[true, true, true, true, true, true, true, true, true, true, true, true, true, true, false, false, false, false, false, false, false, false, false, false, false, false, false, false, false, false, false, false] rfl (by kernel_rfl) (by kernel_rfl) (by kernel_rfl) (fun _ _ _ h => h) (by kernel_rfl) (Or.inl ⟨by rfl, ?_⟩) ?_
      rotate_left
      · intro w
        go_simp
        with_reducible rfl
      go_frame
      refine wpAny_takeL (i := 14) (v := ?_) #[true, true, true, true, true, true, true, true, true, true, true, true, true, true, true, false, false, false, false, false, false, false, false, false, false, false, false, false, false, false, false, false] rfl (by kernel_rfl) (by kernel_rfl) (by kernel_rfl) (fun _ _ _ h => h) (by kernel_rfl) (Or.inl ⟨by rfl, ?_⟩) ?_
      rotate_left
      · intro w
        go_simp
        with_reducible rfl
      go_frame
      refine wpAny_takeL (i := 15) (v := ?_) #[true, true, true, true, true, true, true, true, true, true, true, true, true, true, true, true, false, false, false, false, false, false, false, false, false, false, false, false, false, false, false, false] rfl (by kernel_rfl) (by kernel_rfl) (by kernel_rfl) (fun _ _ _ h => h) (by kernel_rfl) (Or.inl ⟨by rfl, ?_⟩) ?_
      rotate_left
      · intro w
        go_simp
        with_reducible rfl
      go_frame
      refine wpAny_takeL (i := 16) (v := ?_) #[true, true, true, true, true, true, true, true, true, true, true, true, true, true, true, true, true, false, false, false, false, false, false, false, false, false, false, false, false, false, false, false] rfl (by kernel_rfl) (by kernel_rfl) (by kernel_rfl) (fun _ _ _ h => h) (by kernel_rfl) (Or.inl ⟨by rfl, ?_⟩) ?_
      rotate_left
      · intro w
        go_simp
        with_reducible rfl
      go_frame
      refine wpAny_takeL (i := 17) (v := ?_) #[true, true, true, true, true, true, true, true, true, true, true, true, true, true, true, true, true, true, false, false, false, false, false, false, false, false, false, false, false, false, false, false] rfl (by kernel_rfl) (by kernel_rfl) (by kernel_rfl) (fun _ _ _ h => h) (by kernel_rfl) (Or.inl ⟨by rfl, ?_⟩) ?_
      rotate_left
      · intro w
        go_simp
        with_reducible rfl
      go_frame
      have hcx := conv_sec (cap := cap) (HC9.out.stay rfl HT11.out (fun x => x)) rfl
      have hmk := HMK.out
      refine wpAny_ready (rs := [18, 19]) (by kernel_rfl) (by simp) (AllReady.cons rfl (fun K hK => ?_) (AllReady.cons rfl (fun K hK => ?_) AllReady.nil))
      · go_simp
        refine hK _ _ ?_
        clear hK K
        go_frame
        refine wpAny_listed #[true, true, true, true, true, true, true, true, true, true, true, true, true, true, true, true, true, true, true, false, false, false, false, false, false, false, false, false, false, false, false, false] (by kernel_rfl) ?_
        refine wpAny_ready (rs := [19]) (by kernel_rfl) (by simp) (AllReady.cons rfl (fun K hK => ?_) AllReady.nil)
        go_simp
        refine hK _ _ ?_
        clear hK K hcx hmk
        go_frame
        refine wpAny_listed #[true, true, true, true, true, true, true, true, true, true, true, true, true, true, true, true, true, true, true, true, false, false, false, false, false, false, false, false, false, false, false, false] (by kernel_rfl) ?_
        have HW := Lib.hid (show Holds64 (w11.alloc (.cells (cellsB zsec).toArray 5)) w11.heap.size zsec from holds64_row (heap_alloc_new w11 _))
        have HXX := Lib.hid (show Holds64 (w11.alloc (.cells (cellsB zsec).toArray 5)) g zsec from (HC9.out.stay rfl HT11.out (fun x => x)).stay rfl (Stay.alloc (X := fun _ => False) _ _) (fun x => x))
        have HSC := Lib.hid (HS11.out.trans (Stay.alloc (X := fun _ => False) w11 (.cells (cellsB zsec).toArray 5)))
        have HDC := Lib.hid ((HD9.out.stay HT11.out (fun x => x) (fun x => x) (fun x => x)).alloc (.cells (cellsB zsec).toArray 5))
        generalize hwC : w11.alloc (.cells (cellsB zsec).toArray 5) = wC at *
        clear hwC
        obtain ⟨D, hDd⟩ : ∃ D : World → Prop, D = Stay (fun _ => False) wC := ⟨_, rfl⟩
        have HD := Lib.hid (show ∀ W, D W → Stay (fun _ => False) wC W by intro W h; rw [hDd] at h; exact h)
        have HDm := Lib.hid (show ∀ W, Stay (fun _ => False) wC W → D W by intro W h; rw [hDd]; exact h)
        clear hDd
        have HN0 := Lib.hid (HDm.out _ (Stay.refl _ _))
        have kw := fun i : InC D => conv_sec (cap := 64) (HW.out.stay rfl (HD.out _ i.h) (fun x => x)) rfl
        have kx := fun i : InC D => conv_sec (cap := cap) (HXX.out.stay rfl (HD.out _ i.h) (fun x => x)) rfl
        have H1 := Lib.hid (show ∀ W, D W → Calls Tryd.prog 15 #[.pointer (some ⟨pd, 0, none⟩)] W fun e w' => e = .returned (.bool false) ∧ D w' from fun W h => (lost_any W pd ps pm _ (HDC.out.stay (HD.out W h) (fun x => x) (fun x => x) (fun x => x))).mono fun e w' ⟨h1, h2⟩ => ⟨h1, h2 ▸ h⟩)
        have H2 := Lib.hid (show ∀ W, D W → Calls Tryd.prog 6 #[] W fun e w' => e = .returned (.bool true) ∧ D w' from fun W h => (sure_yes W).mono fun e w' ⟨h1, h2⟩ => ⟨h1, HDm.out _ ((HD.out W h).trans h2)⟩)
        haveI : Nonempty (InC D) := ⟨⟨_, HN0.out⟩⟩
        refine wpAny_ord D [20, 21, 22, 23, 24, 25, 26, 27, 28, 29, 30, 31] (.cons rfl (.cons rfl (.cons rfl (.cons rfl (.cons rfl (.cons rfl (.cons rfl (.cons rfl (.cons rfl (.cons rfl (.cons rfl (.cons rfl .nil)))))))))))) rfl (by kernel_rfl) (by kernel_rfl) HN0.out ?_
        simp only [List.getElem_toArray, List.getElem_cons_succ, List.getElem_cons_zero]
        repeat (go_big_quiet_step ((first
          | with_reducible exact calls_class H1.out
          | with_reducible exact calls_class H2.out)))
        refine wpQuiet_nil ?_
        rintro W ⟨ic, rfl⟩
        have hst := HD.out _ ic.h
        clear kw kx
        generalize ic.w = wE at *
        go_wp2
        go_ret
        exact ⟨rfl, HSC.out.trans hst⟩
      · go_simp
        refine hK _ _ ?_
        clear hK K hcx hmk
        go_frame
        refine wpAny_listed #[true, true, true, true, true, true, true, true, true, true, true, true, true, true, true, true, true, true, false, true, false, false, false, false, false, false, false, false, false, false, false, false] (by kernel_rfl) ?_
        have HW := Lib.hid (show Holds64 (w11.alloc (.cells (cellsB zsec).toArray 5)) w11.heap.size zsec from holds64_row (heap_alloc_new w11 _))
        have HXX := Lib.hid (show Holds64 (w11.alloc (.cells (cellsB zsec).toArray 5)) g zsec from (HC9.out.stay rfl HT11.out (fun x => x)).stay rfl (Stay.alloc (X := fun _ => False) _ _) (fun x => x))
        have HSC := Lib.hid (HS11.out.trans (Stay.alloc (X := fun _ => False) w11 (.cells (cellsB zsec).toArray 5)))
        have HDC := Lib.hid ((HD9.out.stay HT11.out (fun x => x) (fun x => x) (fun x => x)).alloc (.cells (cellsB zsec).toArray 5))
        generalize hwC : w11.alloc (.cells (cellsB zsec).toArray 5) = wC at *
        clear hwC
        obtain ⟨D, hDd⟩ : ∃ D : World → Prop, D = Stay (fun _ => False) wC := ⟨_, rfl⟩
        have HD := Lib.hid (show ∀ W, D W → Stay (fun _ => False) wC W by intro W h; rw [hDd] at h; exact h)
        have HDm := Lib.hid (show ∀ W, Stay (fun _ => False) wC W → D W by intro W h; rw [hDd]; exact h)
        clear hDd
        have HN0 := Lib.hid (HDm.out _ (Stay.refl _ _))
        have kw := fun i : InC D => conv_sec (cap := 64) (HW.out.stay rfl (HD.out _ i.h) (fun x => x)) rfl
        have kx := fun i : InC D => conv_sec (cap := cap) (HXX.out.stay rfl (HD.out _ i.h) (fun x => x)) rfl
        have H1 := Lib.hid (show ∀ W, D W → Calls Tryd.prog 15 #[.pointer (some ⟨pd, 0, none⟩)] W fun e w' => e = .returned (.bool false) ∧ D w' from fun W h => (lost_any W pd ps pm _ (HDC.out.stay (HD.out W h) (fun x => x) (fun x => x) (fun x => x))).mono fun e w' ⟨h1, h2⟩ => ⟨h1, h2 ▸ h⟩)
        have H2 := Lib.hid (show ∀ W, D W → Calls Tryd.prog 6 #[] W fun e w' => e = .returned (.bool true) ∧ D w' from fun W h => (sure_yes W).mono fun e w' ⟨h1, h2⟩ => ⟨h1, HDm.out _ ((HD.out W h).trans h2)⟩)
        haveI : Nonempty (InC D) := ⟨⟨_, HN0.out⟩⟩
        refine wpAny_ord D [18, 20, 21, 22, 23, 24, 25, 26, 27, 28, 29, 30, 31] (.cons rfl (.cons rfl (.cons rfl (.cons rfl (.cons rfl (.cons rfl (.cons rfl (.cons rfl (.cons rfl (.cons rfl (.cons rfl (.cons rfl (.cons rfl .nil))))))))))))) rfl (by kernel_rfl) (by kernel_rfl) HN0.out ?_
        simp only [List.getElem_toArray, List.getElem_cons_succ, List.getElem_cons_zero]
        repeat (go_big_quiet_step ((first
          | with_reducible exact calls_class H1.out
          | with_reducible exact calls_class H2.out)))
        refine wpQuiet_nil ?_
        rintro W ⟨ic, rfl⟩
        have hst := HD.out _ ic.h
        clear kw kx
        generalize ic.w = wE at *
        go_wp2
        go_ret
        exact ⟨rfl, HSC.out.trans hst⟩

end Go.Proofs.YtobofagalblhiaaDoor
