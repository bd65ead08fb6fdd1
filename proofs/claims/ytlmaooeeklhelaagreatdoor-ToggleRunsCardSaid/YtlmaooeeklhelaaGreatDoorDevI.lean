/-
  dev: the contract of Start, where sectors are loose.
-/
import Derived.Test.YtlmaooeeklhelaaGreatDoorDevH
namespace Go.Proofs.YtlmaooeeklhelaaGreatDoor
open Go.RowKit Go.Maps
set_option maxRecDepth 100000

theorem key_in {L : Nat → Option (List UInt8)} {n i : Nat} (hi : i < (keysL L n).length) : keyAt L n i < n ∧ ∃ l, L (keyAt L n i) = some l := by
  unfold keyAt
  have hm : (keysL L n).getD i 0 ∈ keysL L n := by
    rw [List.getD_eq_getElem?_getD, List.getElem?_eq_getElem hi]
    exact List.getElem_mem hi
  obtain ⟨h1, h2⟩ := mem_keysL.1 hm
  exact ⟨h1, Option.isSome_iff_exists.1 h2⟩

theorem stepS_keep (s : Nat → List UInt8) (L : Nat → Option (List UInt8)) (n : Nat) (ks : List Bool) (i : Nat) (h : ks.getD i false = true) (l : List UInt8) (hl : L (keyAt L n i) = some l) :
    stepS s L (keysL L n) ks (i + 1) = upd (stepS s L (keysL L n) ks i) (keyAt L n i) l := by
  unfold keyAt at *
  rw [stepS, if_pos h, hl]; rfl
theorem stepS_drop (s : Nat → List UInt8) (L : Nat → Option (List UInt8)) (keys : List Nat) (ks : List Bool) (i : Nat) (h : ks.getD i false = false) : stepS s L keys ks (i + 1) = stepS s L keys ks i := by
  rw [stepS, if_neg (by rw [h]; simp)]

set_option maxHeartbeats 1000000 in
theorem start_kept (w : World) (pd ps pm : Nat) (d : DS) (kb ko cap : Nat) (ks : List Bool) (h : DevAt w pd ps pm d) (hlo : d.lo = false) (hk : keysL d.L d.n ≠ []) (hkc : ∀ j, j < ks.length → w.cell? ⟨kb, ko + j, none⟩ = some (.bool (ks.getD j false))) (hko : ¬ own pd ps pm kb) (hkn : ks.length ≤ 9223372036854775807) :
    Calls Tryz.prog 10 #[.pointer (some ⟨pd, 0, none⟩), .slice (some ⟨kb, ko, none⟩) ks.length cap] w fun e w' => e = .returned (.tuple #[]) ∧ DevAt w' pd ps pm (d.started ks) ∧ Stay (own pd ps pm) w w' := by
  have c3 := h.c3
  rw [hlo] at c3
  have hn2 := h.n2
  have hkl : (keysL d.L d.n).length ≤ 16384 := by have := length_keysI d.L d.n; rw [length_keys] at this; omega
  clear hlo
  have HKC := Lib.hid hkc
  have HKO := Lib.hid hko
  clear hkc hko
  go_enter Tryz.func10, Tryz.ntmps10
  go_wp2_with (go_at_call 31; refine (loose_cons w pd ps pm d h hk).mono ?_; rintro e w1 ⟨g, cap1, rfl, hgw, hgl, hcell, h1, hs1⟩)
  have HCELL := Lib.hid hcell
  have HG := Lib.hid hgl
  have b1 := h.lt1
  have b2 := h.lt2
  have b3 := h.lt3
  clear hcell hgl c3

  go_loopw [4, 5, 17] (fun _ _ c wr => ∃ i : Nat, i ≤ (keysL d.L d.n).length ∧ c = .int .i64 (i : Int) ∧ StartRel w pd ps pm d ks i wr ∧ Stay (own pd ps pm) w1 wr) (fun _ _ c _ => (keysL d.L d.n).length - (intOf c).toNat)
  case atStart => exact ⟨0, Nat.zero_le _, rfl, ⟨h1, hs1.mono (fun _ x => x.elim)⟩, Stay.refl _ _⟩
  case round =>
    obtain ⟨i, hi0, rfl, hrel, hst1⟩ := hrel
    have hdv := hrel.1
    by_cases hi : i < (keysL d.L d.n).length
    · obtain ⟨hjn, l, hj⟩ := key_in hi
      have hwf := wfI (keyAt d.L d.n i) (by omega)
      have hid : wr.cell? ⟨g, i, none⟩ = some (.int .i64 (keyAt d.L d.n i : Int)) := by
        have := hst1.block g HG.out (by rintro (e | e | e) <;> omega)
        exact (World.cell?_of_block (w := w1) (a := ⟨g, i, none⟩) this).trans (HCELL.out i hi)
      have HJ := Lib.hid hj
      have hl64 := Lib.hid (hdv.map.1 _ l hj).1
      clear hj
      by_cases hik : i < ks.length
      · have hkc : wr.cell? ⟨kb, ko + i, none⟩ = some (.bool (ks.getD i false)) := by
          have hc := HKC.out i hik
          have hc1 := hs1.cell hc (fun x => x)
          exact hst1.cell hc1 HKO.out
        cases hb : ks.getD i false with
        | false =>
          rw [hb] at hkc
          have HB := Lib.hid hb
          clear hb
          go_wp2
          refine ⟨⟨i + 1, by omega, by go_num, ⟨by rw [stepS_drop _ _ _ _ _ HB.out]; exact hdv, hrel.2⟩, hst1⟩, by simp [intOf]; omega⟩
        | true =>
          rw [hb] at hkc
          have HB := Lib.hid hb
          clear hb
          have d0 := hdv.c0
          have d1 := hdv.c1
          go_wp2
          refine wp_region_still_tail 12 (by kernel_rfl) (by kernel_rfl) ?_
          simp only [List.take_succ_cons, List.take_zero, List.drop_succ_cons, List.drop_zero]
          change wpStill _ _ wr.drew _ _ _
          iterate 10 still_step
          refine still_look rfl (.tmp 40) (.tmp 41) 67 73 rfl (hdv.map.stay (X := fun _ => False) (Stay.drew (w := wr)) (fun x => x)) Tryz.underlying3 Tryz.underlying67 (zero_blk _) _ hwf rfl rfl l HJ.out ?_
          still_step
          refine wpStill_nil ?_
          change wpList _ _ _ _ _ wr.drew
          refine wpList_store_mid rfl 73 (.tmp 43) (.tmp 42) rfl ps (keyAt d.L d.n i * 64) rfl 73 _ (cellsB l) rfl (w := wr.drew) hdv.sec ?s1 ?s2 (oneCell_cellsB _) ?_
          case s1 => rw [length_cellsB, hl64.out]; kernel_rfl
          case s2 => rw [length_cellsB, length_cellsB, hl64.out, length_flat hdv.wide]; show _ ≤ d.n * 64; omega
          intro w4 hg4 hs4
          rw [splice_cells hdv.wide hl64.out hjn] at hg4
          have hs4' : Stay (· = ps) wr w4 := (Stay.drew (X := fun k => k = ps)).trans hs4
          have hfin : StartRel w pd ps pm d ks (i + 1) w4 := by
            refine ⟨?_, hrel.2.trans (hs4'.mono (fun k e => Or.inr (Or.inl e)))⟩
            rw [stepS_keep _ _ _ _ _ HB.out l HJ.out]
            exact {
              hd := (hs4'.block pd hdv.lt1 hdv.ne1).trans hdv.hd
              sec := hg4
              map := hdv.map.stay hs4' (Ne.symm hdv.ne3)
              wide := upd_wide hdv.wide _ hl64.out
              n1 := hdv.n1, n2 := hdv.n2, ne1 := hdv.ne1, ne2 := hdv.ne2, ne3 := hdv.ne3 }
          have hst4 : Stay (own pd ps pm) w1 w4 := hst1.trans (hs4'.mono (fun k e => Or.inr (Or.inl e)))
          go_wp2
          refine ⟨⟨i + 1, by omega, by go_num, hfin, hst4⟩, by simp [intOf]; omega⟩
      · have HB : Hid (ks.getD i false = false) := Lib.hid (by simp [List.getD_eq_getElem?_getD, List.getElem?_eq_none (by omega : ks.length ≤ i)])
        go_wp2
        refine ⟨⟨i + 1, by omega, by go_num, ⟨by rw [stepS_drop _ _ _ _ _ HB.out]; exact hdv, hrel.2⟩, hst1⟩, by simp [intOf]; omega⟩
    · obtain rfl : i = (keysL d.L d.n).length := by omega
      have d1 := hdv.c1
      have hdd := hdv.hd
      have HDD := Lib.hid hdd
      clear hdd
      go_wp2_with ((with_reducible refine wpList_clear rfl (.tmp 48) 67 73 rfl hdv.map Tryz.underlying67 rfl ?_); intro w5 hm5 hs5
                   have hfin := Lib.hid (start_end hrel hm5 hs5)
                   have hd5 := (hs5.block pd hdv.lt1 hdv.ne2).trans HDD.out
                   have g2 : w5.cell? ⟨pd, 2, none⟩ = some (.bool d.cr) := cell_of_row w5 pd 2 _ _ _ hd5
                   have g4 : w5.cell? ⟨pd, 4, none⟩ = some (.bool d.ar) := cell_of_row w5 pd 4 _ _ _ hd5
                   have f2 : w5.frozen? ⟨pd, 2, none⟩ = false := frozen_of_row w5 pd 2 _ _ hd5
                   have f4 : w5.frozen? ⟨pd, 4, none⟩ = false := frozen_of_row w5 pd 4 _ _ hd5
                   clear hd5)
      go_end0
      exact ⟨rfl, hfin.out.1, hfin.out.2⟩

set_option maxHeartbeats 1000000 in
theorem start_nil (w : World) (pd ps pm : Nat) (d : DS) (kp : Option Addr) (cap : Nat) (h : DevAt w pd ps pm d) (hlo : d.lo = false) (hk : keysL d.L d.n ≠ []) :
    Calls Tryz.prog 10 #[.pointer (some ⟨pd, 0, none⟩), .slice kp 0 cap] w fun e w' => e = .returned (.tuple #[]) ∧ DevAt w' pd ps pm (d.started []) ∧ Stay (own pd ps pm) w w' := by
  have c3 := h.c3
  rw [hlo] at c3
  have hn2 := h.n2
  have hkl : (keysL d.L d.n).length ≤ 16384 := by have := length_keysI d.L d.n; rw [length_keys] at this; omega
  clear hlo
  go_enter Tryz.func10, Tryz.ntmps10
  go_wp2_with (go_at_call 31; refine (loose_cons w pd ps pm d h hk).mono ?_; rintro e w1 ⟨g, cap1, rfl, hgw, hgl, hcell, h1, hs1⟩)
  have HCELL := Lib.hid hcell
  have HG := Lib.hid hgl
  have b1 := h.lt1
  have b2 := h.lt2
  have b3 := h.lt3
  clear hcell hgl c3

  go_loopw [4, 5, 17] (fun _ _ c wr => ∃ i : Nat, i ≤ (keysL d.L d.n).length ∧ c = .int .i64 (i : Int) ∧ StartRel w pd ps pm d [] i wr ∧ Stay (own pd ps pm) w1 wr) (fun _ _ c _ => (keysL d.L d.n).length - (intOf c).toNat)
  case atStart => exact ⟨0, Nat.zero_le _, rfl, ⟨h1, hs1.mono (fun _ x => x.elim)⟩, Stay.refl _ _⟩
  case round =>
    obtain ⟨i, hi0, rfl, hrel, hst1⟩ := hrel
    have hdv := hrel.1
    by_cases hi : i < (keysL d.L d.n).length
    · obtain ⟨hjn, l, hj⟩ := key_in hi
      have hwf := wfI (keyAt d.L d.n i) (by omega)
      have hid : wr.cell? ⟨g, i, none⟩ = some (.int .i64 (keyAt d.L d.n i : Int)) := by
        have := hst1.block g HG.out (by rintro (e | e | e) <;> omega)
        exact (World.cell?_of_block (w := w1) (a := ⟨g, i, none⟩) this).trans (HCELL.out i hi)
      have HJ := Lib.hid hj
      have hl64 := Lib.hid (hdv.map.1 _ l hj).1
      clear hj
      have HB : Hid (([] : List Bool).getD i false = false) := Lib.hid rfl
      go_wp2
      refine ⟨⟨i + 1, by omega, by go_num, ⟨by rw [stepS_drop _ _ _ _ _ HB.out]; exact hdv, hrel.2⟩, hst1⟩, by simp [intOf]; omega⟩
    · obtain rfl : i = (keysL d.L d.n).length := by omega
      have d1 := hdv.c1
      have hdd := hdv.hd
      have HDD := Lib.hid hdd
      clear hdd
      go_wp2_with ((with_reducible refine wpList_clear rfl (.tmp 48) 67 73 rfl hdv.map Tryz.underlying67 rfl ?_); intro w5 hm5 hs5
                   have hfin := Lib.hid (start_end hrel hm5 hs5)
                   have hd5 := (hs5.block pd hdv.lt1 hdv.ne2).trans HDD.out
                   have g2 : w5.cell? ⟨pd, 2, none⟩ = some (.bool d.cr) := cell_of_row w5 pd 2 _ _ _ hd5
                   have g4 : w5.cell? ⟨pd, 4, none⟩ = some (.bool d.ar) := cell_of_row w5 pd 4 _ _ _ hd5
                   have f2 : w5.frozen? ⟨pd, 2, none⟩ = false := frozen_of_row w5 pd 2 _ _ hd5
                   have f4 : w5.frozen? ⟨pd, 4, none⟩ = false := frozen_of_row w5 pd 4 _ _ hd5
                   clear hd5)
      go_end0
      exact ⟨rfl, hfin.out.1, hfin.out.2⟩

end Go.Proofs.YtlmaooeeklhelaaGreatDoor
